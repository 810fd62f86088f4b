/- records (RV), records that are counted (IV), rows of them -/
import Derived.Test.YtgmpgemgoplafaaG02
import Derived.Deep.RegionHeldLaw
namespace Go.Proofs.Ytgmpgemgoplafaa
open Go.RowKit
set_option linter.unusedVariables false
set_option linter.unusedSimpArgs false

structure RV where
  k : Int
  v : Int
instance : Inhabited RV := ⟨⟨0, 0⟩⟩
instance : DecidableEq RV := fun a b =>
  if h : a.k = b.k ∧ a.v = b.v then .isTrue (by obtain ⟨h1, h2⟩ := h; cases a; cases b; simp only at h1 h2; subst h1; subst h2; rfl)
  else .isFalse fun e => h (by subst e; exact ⟨rfl, rfl⟩)
def RV.enc (r : RV) : List Value := [.int .i64 r.k, .int .i64 r.v]
abbrev RV.val (r : RV) : Value := .agg #[.int .i64 r.k, .int .i64 r.v]
structure IV where
  t : RV
  n : Int
instance : Inhabited IV := ⟨⟨default, 0⟩⟩
instance : DecidableEq IV := fun a b =>
  if h : a.t = b.t ∧ a.n = b.n then .isTrue (by obtain ⟨h1, h2⟩ := h; cases a; cases b; simp only at h1 h2; subst h1; subst h2; rfl)
  else .isFalse fun e => h (by subst e; exact ⟨rfl, rfl⟩)
def IV.enc (c : IV) : List Value := [.int .i64 c.t.k, .int .i64 c.t.v, .int .i64 c.n]
abbrev IV.val (c : IV) : Value := .agg #[.int .i64 c.t.k, .int .i64 c.t.v, .int .i64 c.n]
def RI : RowKind IV where
  enc := IV.enc
  k := 3
  k0 := by decide
  len := fun _ => rfl
  one := by
    intro c u hu
    simp [IV.enc] at hu
    rcases hu with rfl | rfl | rfl <;> rfl
  tE := 43
  tS := 28
  zero := .agg #[.int .i64 0, .int .i64 0, .int .i64 0]
  bytes := 24
  info := by kernel_rfl
  under := Try.underlying28
  zlen := rfl
  byt := by decide
def RR : RowKind RV where
  enc := RV.enc
  k := 2
  k0 := by decide
  len := fun _ => rfl
  one := by
    intro c u hu
    simp [RV.enc] at hu
    rcases hu with rfl | rfl <;> rfl
  tE := 41
  tS := 25
  zero := .agg #[.int .i64 0, .int .i64 0]
  bytes := 16
  info := by kernel_rfl
  under := Try.underlying25
  zlen := rfl
  byt := by decide
theorem atI {w : World} {b off : Nat} {xs : List IV} (h : RI.Row w b off xs) (j : Nat) (hj : j < xs.length) :
    w.cell? ⟨b, off + j * 3, none⟩ = some (.int .i64 xs[j]!.t.k) ∧ w.cell? ⟨b, off + j * 3 + 1, none⟩ = some (.int .i64 xs[j]!.t.v) ∧ w.cell? ⟨b, off + j * 3 + 2, none⟩ = some (.int .i64 xs[j]!.n) :=
  ⟨h j hj 0 _ rfl, h j hj 1 _ rfl, h j hj 2 _ rfl⟩
theorem atR {w : World} {b off : Nat} {xs : List RV} (h : RR.Row w b off xs) (j : Nat) (hj : j < xs.length) :
    w.cell? ⟨b, off + j * 2, none⟩ = some (.int .i64 xs[j]!.k) ∧ w.cell? ⟨b, off + j * 2 + 1, none⟩ = some (.int .i64 xs[j]!.v) :=
  ⟨h j hj 0 _ rfl, h j hj 1 _ rfl⟩
theorem ownCapK {α : Type} {R : RowKind α} {B : Nat} {w : World} {v : Value} {xs : List α} (h : R.Own B w v xs) : capOk v := by
  obtain ⟨_, ⟨rfl, _⟩ | ⟨g, cap, cur, rfl, _, _, hle, _⟩⟩ := h
  · intro p n c e; cases e; exact Nat.le_refl _
  · intro p n c e; cases e; exact hle

/- the order -/
def RV.lt (a b : RV) : Bool := decide (a.k < b.k) || (decide (a.k = b.k) && decide (a.v < b.v))
theorem RV.lt_iff (a b : RV) : a.lt b = true ↔ a.k < b.k ∨ (a.k = b.k ∧ a.v < b.v) := by simp [RV.lt]
theorem RV.lt_no (a b : RV) : a.lt b = false ↔ ¬ (a.k < b.k ∨ (a.k = b.k ∧ a.v < b.v)) := by rw [← RV.lt_iff]; simp
theorem RV.ext2 {a b : RV} (h1 : a.k = b.k) (h2 : a.v = b.v) : a = b := by cases a; cases b; simp only at h1 h2; subst h1; subst h2; rfl
theorem RV.lt_trans {a b c : RV} (h : a.lt b = true) (k : b.lt c = true) : a.lt c = true := by
  rw [RV.lt_iff] at *; omega
theorem RV.lt_irrefl (a : RV) : a.lt a = false := by rw [RV.lt_no]; omega
theorem RV.lt_asym {a b : RV} (h : a.lt b = true) : b.lt a = false := by rw [RV.lt_iff] at h; rw [RV.lt_no]; omega
theorem RV.tri {a b : RV} (h : a.lt b = false) (k : b.lt a = false) : a = b := by
  rw [RV.lt_no] at *
  exact RV.ext2 (by omega) (by omega)
def cmpZ (a b : Int) : Int := if a < b then -1 else if b < a then 1 else 0
def orZ (a b : Int) : Int := if a ≠ 0 then a else b
def cmpR (a b : RV) : Int := orZ (cmpZ a.k b.k) (cmpZ a.v b.v)
theorem cmpR_lt (a b : RV) : decide (cmpR a b < 0) = a.lt b := by
  rw [Bool.eq_iff_iff, decide_eq_true_eq, RV.lt_iff]
  unfold cmpR orZ cmpZ
  repeat' split
  all_goals omega
theorem cmpR_gt (a b : RV) : decide (0 < cmpR a b) = b.lt a := by
  rw [Bool.eq_iff_iff, decide_eq_true_eq, RV.lt_iff]
  unfold cmpR orZ cmpZ
  repeat' split
  all_goals omega
theorem cmpR_zero (a b : RV) : cmpR a b = 0 ↔ a = b := by
  constructor
  · intro h
    refine RV.tri ?_ ?_
    · rw [← cmpR_lt, h]; rfl
    · rw [← cmpR_gt, h]; rfl
  · intro h
    subst h
    unfold cmpR orZ cmpZ
    simp
end Go.Proofs.Ytgmpgemgoplafaa
/- records held against each other: cmp.Compare, cmp.Or, bag.compare, bag.Less -/
namespace Go.Proofs.Ytgmpgemgoplafaa
open Go.RowKit
set_option linter.unusedVariables false
set_option linter.unusedSimpArgs false

theorem nan_any (a : Int) (w : World) : Calls Try.prog 49 #[.int .i64 a] w (RetW (.bool false) w) := by
  go_enter Try.func49, Try.ntmps49
  go_wp2
  go_returns
  exact ⟨by simp, rfl⟩
theorem compareZ_any (a b : Int) (w : World) : Calls Try.prog 30 #[.int .i64 a, .int .i64 b] w (RetW (.int .i64 (cmpZ a b)) w) := by
  have HA := Lib.hid (fun W => nan_any a W)
  have HB := Lib.hid (fun W => nan_any b W)
  by_cases h1 : a < b
  · have hc : cmpZ a b = -1 := by unfold cmpZ; rw [if_pos h1]
    rw [hc]; clear hc
    go_enter Try.func30, Try.ntmps30
    go_wp2_with fail
    refine (HA.out _).mono ?_
    rintro e w1 ⟨rfl, rfl⟩
    go_wp2_with fail
    refine (HB.out _).mono ?_
    rintro e w1 ⟨rfl, rfl⟩
    go_wp2
    go_returns
    exact ⟨rfl, rfl⟩
  · by_cases h2 : b < a
    · have hc : cmpZ a b = 1 := by unfold cmpZ; rw [if_neg h1, if_pos h2]
      rw [hc]; clear hc
      go_enter Try.func30, Try.ntmps30
      go_wp2_with fail
      refine (HA.out _).mono ?_
      rintro e w1 ⟨rfl, rfl⟩
      go_wp2_with fail
      refine (HB.out _).mono ?_
      rintro e w1 ⟨rfl, rfl⟩
      go_wp2
      go_returns
      exact ⟨rfl, rfl⟩
    · have hc : cmpZ a b = 0 := by unfold cmpZ; rw [if_neg h1, if_neg h2]
      rw [hc]; clear hc
      go_enter Try.func30, Try.ntmps30
      go_wp2_with fail
      refine (HA.out _).mono ?_
      rintro e w1 ⟨rfl, rfl⟩
      go_wp2_with fail
      refine (HB.out _).mono ?_
      rintro e w1 ⟨rfl, rfl⟩
      go_wp2
      go_returns
      exact ⟨rfl, rfl⟩
theorem or_any (a b : Int) (g : Nat) (w : World) (h0 : w.cell? ⟨g, 0, none⟩ = some (.int .i64 a)) (h1 : w.cell? ⟨g, 1, none⟩ = some (.int .i64 b)) :
    Calls Try.prog 29 #[.slice (some ⟨g, 0, none⟩) 2 2] w (RetW (.int .i64 (orZ a b)) w) := by
  by_cases ha : a = 0
  · have hab : (a != 0) = false := by simp [ha]
    rw [show orZ a b = b from if_neg (by simpa using ha)]
    by_cases hb : b = 0
    · have hbb : (b != 0) = false := by simp [hb]
      clear ha
      subst hb
      clear hbb
      go_enter Try.func29, Try.ntmps29
      go_wp2
      refine wp_loop_rounds 3 ?_
      rw [rounds_succ]
      go_wp2
      rw [rounds_succ]
      go_wp2
      rw [rounds_succ]
      go_wp2
      go_returns
      exact ⟨rfl, rfl⟩
    · have hbb : (b != 0) = true := by simp [hb]
      clear ha hb
      go_enter Try.func29, Try.ntmps29
      go_wp2
      refine wp_loop_rounds 3 ?_
      rw [rounds_succ]
      go_wp2
      rw [rounds_succ]
      go_wp2
      go_returns
      exact ⟨rfl, rfl⟩
  · have hab : (a != 0) = true := by simp [ha]
    rw [show orZ a b = a from if_pos (by simpa using ha)]
    clear ha
    go_enter Try.func29, Try.ntmps29
    go_wp2
    refine wp_loop_rounds 3 ?_
    rw [rounds_succ]
    go_wp2
    go_returns
    exact ⟨rfl, rfl⟩
set_option maxHeartbeats 1000000 in
theorem bcompare_any (a b : RV) (w : World) : Calls Try.prog 19 #[a.val, b.val] w (RetD (.int .i64 (cmpR a b)) w) := by
  obtain ⟨k1, v1⟩ := a
  obtain ⟨k2, v2⟩ := b
  show Calls _ _ #[.agg #[.int .i64 k1, .int .i64 v1], .agg #[.int .i64 k2, .int .i64 v2]] _ (RetD (.int .i64 (orZ (cmpZ k1 k2) (cmpZ v1 v2))) w)
  have HC := Lib.hid (fun x y W => compareZ_any x y W)
  have HO := Lib.hid (fun x y (W : World) (t : TypeId) => or_any x y W.heap.size (W.alloc (.cells #[.int .i64 x, .int .i64 y] t)).drew (by show (W.alloc _).cell? _ = _; simp) (by show (W.alloc _).cell? _ = _; simp))
  go_enter Try.func19, Try.ntmps19
  go_wp2_with fail
  refine gen_world (fun W2 => Below w.heap.size w W2 ∧ w.drawn ≤ W2.drawn ∧ w.heap.size + 1 < W2.heap.size ∧ W2.cell? ⟨w.heap.size, 0, none⟩ = some (.int .i64 k1) ∧ W2.cell? ⟨w.heap.size, 1, none⟩ = some (.int .i64 v1) ∧ W2.cell? ⟨w.heap.size + 1, 0, none⟩ = some (.int .i64 k2) ∧ W2.cell? ⟨w.heap.size + 1, 1, none⟩ = some (.int .i64 v2)) ⟨by repeat' (first | (with_reducible first | exact Below.refl _ _ | apply Below.drew | apply Below.alloc) | (simp; done) | (simp; omega)), by simp only [drawn_alloc]; omega, by simp, by go_cell, by go_cell, by go_cell, by go_cell⟩ ?_
  rintro w2 ⟨hB, hD, hz, p0, p1, q0, q1⟩
  have D0 : w.heap.size ≠ w2.heap.size := by omega
  have D1 : w.heap.size + 1 ≠ w2.heap.size := by omega
  have hz0 := hB.size
  have HB := Lib.hid hB
  clear hB
  go_wp2_with fail
  go_region_held_law (fun w' => w'.cell? ⟨w.heap.size, 0, none⟩ = some (.int .i64 k1) ∧ w'.cell? ⟨w.heap.size, 1, none⟩ = some (.int .i64 v1) ∧ w'.cell? ⟨w.heap.size + 1, 0, none⟩ = some (.int .i64 k2) ∧ w'.cell? ⟨w.heap.size + 1, 1, none⟩ = some (.int .i64 v2)) (first | assumption | go_keep) (first
    | (go_at_call 30; refine (HC.out _ _ _).mono ?_; rintro e w' ⟨rfl, rfl⟩)
    | (go_at_call 29; refine (HO.out _ _ _ _).mono ?_; rintro e w' ⟨rfl, rfl⟩))
  all_goals
    try simp only [List.getElem_toArray, List.getElem_cons_succ, List.getElem_cons_zero, Act.put, List.setIfInBounds_toArray, List.set_cons_zero, List.set_cons_succ]
    go_wp2
    go_returns
    exact ⟨rfl, by repeat' (first | (with_reducible first | exact HB.out | exact hz0 | apply Below.drew | apply Below.alloc)), by simp only [drawn_alloc, drawn_drew]; omega⟩
theorem bless_any (a b : RV) (w : World) : Calls Try.prog 26 #[a.val, b.val] w (Ret (.bool (a.lt b)) w) := by
  have H : Hid (∀ W, Calls Try.prog 19 #[.agg #[.int .i64 a.k, .int .i64 a.v], .agg #[.int .i64 b.k, .int .i64 b.v]] W (Ret (.int .i64 (cmpR a b)) W)) := fun W => (bcompare_any a b W).mono fun _ _ h => h.ret
  have hc := (cmpR_lt a b).symm
  generalize cmpR a b = r at *
  generalize a.lt b = q at *
  have HC := Lib.hid hc
  clear hc
  show Calls _ _ #[.agg #[.int .i64 a.k, .int .i64 a.v], .agg #[.int .i64 b.k, .int .i64 b.v]] _ _
  go_enter Try.func26, Try.ntmps26
  go_wp2_with fail
  refine (H.out _).mono ?_
  rintro e w1 ⟨rfl, hb1⟩
  have hB : Below w.heap.size w w1 := bcall (by repeat' first | exact Below.refl _ _ | (apply Below.alloc) | (simp; done)) hb1 (by simp; omega)
  have HB := Lib.hid hB
  clear hb1
  go_wp2
  go_returns
  exact ⟨ret_bool HC.out.symm, HB.out⟩
end Go.Proofs.Ytgmpgemgoplafaa
/- bag.fits, bag.Right -/
namespace Go.Proofs.Ytgmpgemgoplafaa
open Go.RowKit
set_option linter.unusedVariables false
set_option linter.unusedSimpArgs false

def fitsN (n : Int) : Bool := decide (-2147483648 ≤ n ∧ n ≤ 2147483648)
def IV.ok (c : IV) : Bool := !(c.n == 0) && fitsN c.n
/-- the first k are right, and in order -/
def upI (xs : List IV) (k : Nat) : Bool := decide (∀ j, j < k → (xs[j]!).ok = true ∧ (0 < j → (xs[j - 1]!).t.lt (xs[j]!).t = true))
def rightI (xs : List IV) : Bool := upI xs xs.length
theorem upI_zero (xs : List IV) : upI xs 0 = true := decide_eq_true (by intro j h; omega)
theorem upI_succ {xs : List IV} {k : Nat} (h : upI xs k = true) (h1 : (xs[k]!).ok = true) (h2 : 0 < k → (xs[k - 1]!).t.lt (xs[k]!).t = true) : upI xs (k + 1) = true := by
  refine decide_eq_true fun j hj => ?_
  by_cases e : j = k
  · subst e; exact ⟨h1, h2⟩
  · exact of_decide_eq_true h j (by omega)
theorem rightI_no_ok {xs : List IV} {k : Nat} (hk : k < xs.length) (h1 : (xs[k]!).ok = false) : rightI xs = false :=
  decide_eq_false fun h => by have := (h k hk).1; rw [h1] at this; cases this
theorem rightI_no_lt {xs : List IV} {k : Nat} (hk : k < xs.length) (h0 : 0 < k) (h1 : (xs[k - 1]!).t.lt (xs[k]!).t = false) : rightI xs = false :=
  decide_eq_false fun h => by have := (h k hk).2 h0; rw [h1] at this; cases this
theorem bfits_any (n : Int) (w : World) : Calls Try.prog 25 #[.int .i64 n] w (Ret (.bool (fitsN n)) w) := by
  go_enter Try.func25, Try.ntmps25
  by_cases h1 : -2147483648 ≤ n
  · by_cases h2 : n ≤ 2147483648
    · go_wp2
      go_returns
      exact ⟨ret_bool (decide_eq_true ⟨h1, h2⟩).symm, Below.refl _ _⟩
    · go_wp2
      go_returns
      exact ⟨ret_bool (decide_eq_false fun h => absurd h.2 (by omega)).symm, Below.refl _ _⟩
  · go_wp2
    go_returns
    exact ⟨ret_bool (decide_eq_false fun h => absurd h.1 (by omega)).symm, Below.refl _ _⟩
structure Own3 (w : World) (b : Nat) (v0 v1 v2 : Value) : Prop where
  l0 : w.cell? ⟨b, 0, none⟩ = some v0
  l1 : w.cell? ⟨b, 1, none⟩ = some v1
  l2 : w.cell? ⟨b, 2, none⟩ = some v2
theorem Own3.new (w : World) (v0 v1 v2 : Value) (t : TypeId) : Own3 (w.alloc (.cells #[v0, v1, v2] t)) w.heap.size v0 v1 v2 := ⟨by simp, by simp, by simp⟩
theorem Own3.below {w w' : World} {B b : Nat} {v0 v1 v2 : Value} (h : Own3 w b v0 v1 v2) (hb : Below B w w') (hl : b < B) : Own3 w' b v0 v1 v2 :=
  ⟨(hb.cell (p := ⟨b, 0, none⟩) hl).trans h.l0, (hb.cell (p := ⟨b, 1, none⟩) hl).trans h.l1, (hb.cell (p := ⟨b, 2, none⟩) hl).trans h.l2⟩
set_option maxRecDepth 100000 in
set_option maxHeartbeats 4000000 in
theorem bright_row (xs : List IV) (b off cap : Nat) (w : World) (hl : xs.length ≤ 900000) (hb : b < w.heap.size) (hr : RI.Row w b off xs) :
    Calls Try.prog 16 #[.slice (some ⟨b, off, none⟩) xs.length cap] w (Ret (.bool (rightI xs)) w) := by
  have hrow : Hid (∀ (W : World), Below w.heap.size w W → ∀ j, j < xs.length → _) := fun W hW j hj => atI (hr.below hW hb) j hj
  clear hr
  generalize hn : xs.length = n at hl
  have HN := Lib.hid hn
  clear hn
  go_enter Try.func16, Try.ntmps16
  go_wp2
  go_loopg [7] n (fun gg i wr => ∃ k : Nat, k ≤ n ∧ n - k ≤ gg ∧ i = .int .i64 k ∧ Hid (Below w.heap.size w wr) ∧ Hid (upI xs k = true))
  case atStart => exact ⟨0, Nat.zero_le _, by omega, rfl, Below.refl _ _, upI_zero _⟩
  case round =>
    obtain ⟨k, hkn, hg, rfl, HB, HU⟩ := hrel
    by_cases hlt : k < n
    · have hlz : (k : Int) < (n : Int) := by omega
      have hc := hrow.out wr HB.out k (by rw [HN.out]; exact hlt)
      have hno1 := fun h => rightI_no_ok (xs := xs) (k := k) (by rw [HN.out]; exact hlt) h
      have hno2 := fun h => rightI_no_lt (xs := xs) (k := k) (by rw [HN.out]; exact hlt) h
      have hup := fun h => upI_succ (xs := xs) (k := k) HU.out h
      have hcp := fun (W : World) (hW : Below w.heap.size w W) (h : 0 < k) => hrow.out W hW (k - 1) (by rw [HN.out]; omega)
      generalize xs[k]! = c at hc hno1 hno2 hup
      generalize xs[k - 1]! = c' at hno2 hup hcp
      obtain ⟨t, m⟩ := c
      obtain ⟨e0, e1, e2⟩ := hc
      simp only at e0 e1 e2
      have hF := fun W => bfits_any m W
      have hL := fun W => bless_any c'.t t W
      have hok : IV.ok ⟨t, m⟩ = (!(m == 0) && fitsN m) := rfl
      rw [hok] at hno1 hup
      clear hok hrow
      generalize fitsN m = q2 at hno1 hup hF
      generalize c'.t.lt t = q3 at hno2 hup hL
      have HF := Lib.hid hF; have HL := Lib.hid hL
      clear hF hL
      have HN1 := Lib.hid hno1; have HN2 := Lib.hid hno2; have HUP := Lib.hid hup; have HCP := Lib.hid hcp
      clear hno1 hno2 hup hcp
      by_cases hm : m = 0
      · subst hm
        have HB1 := Lib.hid (HB.out.alloc HB.out.size (.cells #[.int .i64 t.k, .int .i64 t.v, .int .i64 0] 43))
        go_wp2
        go_returns
        exact ⟨ret_bool (HN1.out rfl).symm, HB1.out⟩
      have hmb : (m == 0) = false := by simpa using hm
      go_wp2_with fail
      refine (HF.out _).mono ?_
      rintro e w1 ⟨rfl, hb⟩
      have hX1 := (Own3.new wr (.int .i64 t.k) (.int .i64 t.v) (.int .i64 m) 43).below hb (by simp)
      have hB1 := bcall (HB.out.alloc HB.out.size _) hb (by simp; have := HB.out.size; omega)
      clear hb
      obtain ⟨p0, p1, p2⟩ := hX1
      have HB1 := Lib.hid hB1
      clear hB1 e0 e1 e2
      cases q2
      · go_wp2
        go_returns
        exact ⟨ret_bool (HN1.out (by rw [hmb]; rfl)).symm, HB1.out⟩
      by_cases hk0 : k = 0
      · subst hk0
        have HU1 : Hid (upI xs (0 + 1) = true) := HUP.out (by rw [hmb]; rfl) (fun h => absurd h (by omega))
        clear HUP HN1 HN2 HCP HU
        go_wp2_with fail
        refine wp_region_beh (by kernel_rfl) (by kernel_rfl) ?_
        repeat (first | go_big_quiet_step (first | (with_reducible exact Calls.beh (HL.out _))) | quiet_step (first | (with_reducible exact Calls.beh (HL.out _))))
        refine wpQuiet_nil ?_
        intro _ hw'
        obtain ⟨g, hw''⟩ := hw'
        subst hw''
        have HB3 := Lib.hid (HB1.out.trans (g.h.mono HB1.out.size))
        clear p0 p1 p2
        generalize g.w = wq at *
        clear g
        go_wp2
        go_roundg (n - (0 + 1))
        case measure => omega
        case rel => exact ⟨0 + 1, by omega, by omega, by go_num, HB3.out, HU1.out⟩
      obtain ⟨k', rfl⟩ : ∃ k', k = k' + 1 := ⟨k - 1, by omega⟩
      have hkz : (0 : Int) < ((k' + 1 : Nat) : Int) := by omega
      have hc := HCP.out _ HB1.out (by omega)
      simp only [Nat.add_sub_cancel] at hc
      obtain ⟨f0, f1, f2⟩ := hc
      clear HCP f2
      replace p0 := fun p => beh_cell p0 p
      replace p1 := fun p => beh_cell p1 p
      replace p2 := fun p => beh_cell p2 p
      replace f0 := fun p => beh_cell f0 p
      replace f1 := fun p => beh_cell f1 p
      cases q3
      · go_wp2_with fail
        refine wp_region_beh (by kernel_rfl) (by kernel_rfl) ?_
        repeat (first | go_big_quiet_step (first | (with_reducible exact Calls.beh (HL.out _))) | quiet_step (first | (with_reducible exact Calls.beh (HL.out _))))
        refine wpQuiet_nil ?_
        intro _ hw'
        obtain ⟨g, hw''⟩ := hw'
        subst hw''
        have HB3 := Lib.hid (HB1.out.trans (g.h.mono HB1.out.size))
        clear p0 p1 p2
        generalize g.w = wq at *
        clear g
        go_wp2
        go_returns
        exact ⟨ret_bool (HN2.out (by omega) (by trivial)).symm, HB3.out⟩
      · have HU1 : Hid (upI xs (k' + 1 + 1) = true) := HUP.out (by rw [hmb]; rfl) (fun _ => rfl)
        clear HUP HN1 HN2 HU
        go_wp2_with fail
        refine wp_region_beh (by kernel_rfl) (by kernel_rfl) ?_
        repeat (first | go_big_quiet_step (first | (with_reducible exact Calls.beh (HL.out _))) | quiet_step (first | (with_reducible exact Calls.beh (HL.out _))))
        refine wpQuiet_nil ?_
        intro _ hw'
        obtain ⟨g, hw''⟩ := hw'
        subst hw''
        have HB3 := Lib.hid (HB1.out.trans (g.h.mono HB1.out.size))
        clear p0 p1 p2
        generalize g.w = wq at *
        clear g
        go_wp2
        go_roundg (n - (k' + 1 + 1))
        case measure => omega
        case rel => exact ⟨k' + 1 + 1, by omega, by omega, by go_num, HB3.out, HU1.out⟩
    · have hlz : ¬ (k : Int) < (n : Int) := by omega
      have : k = n := by omega
      subst this
      have HX : Hid (rightI xs = true) := by
        have h := HU.out
        rw [← HN.out] at h
        exact h
      clear HU hrow
      go_wp2
      go_returns
      exact ⟨ret_bool HX.out.symm, HB.out⟩
set_option maxHeartbeats 2000000 in
theorem bright_nil (p : Option Addr) (cap : Nat) (w : World) : Calls Try.prog 16 #[.slice p 0 cap] w (Ret (.bool (rightI [])) w) := by
  go_enter Try.func16, Try.ntmps16
  go_wp2
  refine wp_loop_rounds 1 ?_
  rw [rounds_succ]
  go_wp2
  go_returns
  exact ⟨ret_bool (by decide), Below.refl _ _⟩
theorem bright_any (xs : List IV) (v : Value) (w : World) (hl : xs.length ≤ 900000) (h : RI.Is w v xs) : Calls Try.prog 16 #[v] w (Ret (.bool (rightI xs)) w) := by
  rcases h with ⟨rfl, p, cap, rfl, _⟩ | ⟨_, b, off, cap, rfl, hb, hr⟩
  · exact bright_nil p cap w
  · exact bright_row xs b off cap w hl hb hr
end Go.Proofs.Ytgmpgemgoplafaa
