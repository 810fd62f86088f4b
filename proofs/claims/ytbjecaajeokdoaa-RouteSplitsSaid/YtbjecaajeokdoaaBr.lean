/- bag.fits, bag.Right -/
import Derived.Test.YtbjecaajeokdoaaBc
namespace Go.Proofs.Ytbjecaajeokdoaa
open Go.RowKit
set_option linter.unusedVariables false
set_option linter.unusedSimpArgs false

def fitsN (n : Int) : Bool := decide (-2147483648 ≤ n ∧ n ≤ 2147483648)
def IV.ok (c : IV) : Bool := !(c.n == 0) && fitsN c.n
/-- the first k are right, and in order -/
def upI (xs : List IV) (k : Nat) : Bool := decide (∀ j, j < k → (xs[j]!).ok = true ∧ (0 < j → (xs[j - 1]!).t.lt (xs[j]!).t = true))
def rightI (xs : List IV) : Bool := upI xs xs.length
theorem upI_zero (xs : List IV) : upI xs 0 = true := decide_eq_true (by intro j h; omega)
theorem upI_succ {xs : List IV} {k : Nat} (h : upI xs k = true) (h1 : (xs[k]!).ok = true) (h2 : 0 < k → (xs[k - 1]!).t.lt (xs[k]!).t = true) : upI xs (k + 1) = true := by
  refine decide_eq_true fun j hj => ?_
  by_cases e : j = k
  · subst e; exact ⟨h1, h2⟩
  · exact of_decide_eq_true h j (by omega)
theorem rightI_no_ok {xs : List IV} {k : Nat} (hk : k < xs.length) (h1 : (xs[k]!).ok = false) : rightI xs = false :=
  decide_eq_false fun h => by have := (h k hk).1; rw [h1] at this; cases this
theorem rightI_no_lt {xs : List IV} {k : Nat} (hk : k < xs.length) (h0 : 0 < k) (h1 : (xs[k - 1]!).t.lt (xs[k]!).t = false) : rightI xs = false :=
  decide_eq_false fun h => by have := (h k hk).2 h0; rw [h1] at this; cases this
theorem bfits_any (n : Int) (w : World) : Calls Try.prog 13 #[.int .i64 n] w (Ret (.bool (fitsN n)) w) := by
  go_enter Try.func13, Try.ntmps13
  by_cases h1 : -2147483648 ≤ n
  · by_cases h2 : n ≤ 2147483648
    · go_wp2
      go_returns
      exact ⟨ret_bool (decide_eq_true ⟨h1, h2⟩).symm, Below.refl _ _⟩
    · go_wp2
      go_returns
      exact ⟨ret_bool (decide_eq_false fun h => absurd h.2 (by omega)).symm, Below.refl _ _⟩
  · go_wp2
    go_returns
    exact ⟨ret_bool (decide_eq_false fun h => absurd h.1 (by omega)).symm, Below.refl _ _⟩
structure Own3 (w : World) (b : Nat) (v0 v1 v2 : Value) : Prop where
  l0 : w.cell? ⟨b, 0, none⟩ = some v0
  l1 : w.cell? ⟨b, 1, none⟩ = some v1
  l2 : w.cell? ⟨b, 2, none⟩ = some v2
theorem Own3.new (w : World) (v0 v1 v2 : Value) (t : TypeId) : Own3 (w.alloc (.cells #[v0, v1, v2] t)) w.heap.size v0 v1 v2 := ⟨by simp, by simp, by simp⟩
theorem Own3.below {w w' : World} {B b : Nat} {v0 v1 v2 : Value} (h : Own3 w b v0 v1 v2) (hb : Below B w w') (hl : b < B) : Own3 w' b v0 v1 v2 :=
  ⟨(hb.cell (p := ⟨b, 0, none⟩) hl).trans h.l0, (hb.cell (p := ⟨b, 1, none⟩) hl).trans h.l1, (hb.cell (p := ⟨b, 2, none⟩) hl).trans h.l2⟩
set_option maxRecDepth 100000 in
set_option maxHeartbeats 4000000 in
theorem bright_row (xs : List IV) (b off cap : Nat) (w : World) (hl : xs.length ≤ 900000) (hb : b < w.heap.size) (hr : RI.Row w b off xs) :
    Calls Try.prog 9 #[.slice (some ⟨b, off, none⟩) xs.length cap] w (Ret (.bool (rightI xs)) w) := by
  have hrow : Hid (∀ (W : World), Below w.heap.size w W → ∀ j, j < xs.length → _) := fun W hW j hj => atI (hr.below hW hb) j hj
  clear hr
  generalize hn : xs.length = n at hl
  have HN := Lib.hid hn
  clear hn
  go_enter Try.func9, Try.ntmps9
  go_wp2
  go_loopg [7] n (fun gg i wr => ∃ k : Nat, k ≤ n ∧ n - k ≤ gg ∧ i = .int .i64 k ∧ Hid (Below w.heap.size w wr) ∧ Hid (upI xs k = true))
  case atStart => exact ⟨0, Nat.zero_le _, by omega, rfl, Below.refl _ _, upI_zero _⟩
  case round =>
    obtain ⟨k, hkn, hg, rfl, HB, HU⟩ := hrel
    by_cases hlt : k < n
    · have hlz : (k : Int) < (n : Int) := by omega
      have hc := hrow.out wr HB.out k (by rw [HN.out]; exact hlt)
      have hno1 := fun h => rightI_no_ok (xs := xs) (k := k) (by rw [HN.out]; exact hlt) h
      have hno2 := fun h => rightI_no_lt (xs := xs) (k := k) (by rw [HN.out]; exact hlt) h
      have hup := fun h => upI_succ (xs := xs) (k := k) HU.out h
      have hcp := fun (W : World) (hW : Below w.heap.size w W) (h : 0 < k) => hrow.out W hW (k - 1) (by rw [HN.out]; omega)
      generalize xs[k]! = c at hc hno1 hno2 hup
      generalize xs[k - 1]! = c' at hno2 hup hcp
      obtain ⟨t, m⟩ := c
      obtain ⟨e0, e1, e2⟩ := hc
      simp only at e0 e1 e2
      have hF := fun W => bfits_any m W
      have hL := fun W => bless_any c'.t t W
      have hok : IV.ok ⟨t, m⟩ = (!(m == 0) && fitsN m) := rfl
      rw [hok] at hno1 hup
      clear hok hrow
      generalize fitsN m = q2 at hno1 hup hF
      generalize c'.t.lt t = q3 at hno2 hup hL
      have HF := Lib.hid hF; have HL := Lib.hid hL
      clear hF hL
      have HN1 := Lib.hid hno1; have HN2 := Lib.hid hno2; have HUP := Lib.hid hup; have HCP := Lib.hid hcp
      clear hno1 hno2 hup hcp
      by_cases hm : m = 0
      · subst hm
        have HB1 := Lib.hid (HB.out.alloc HB.out.size (.cells #[.int .i64 t.k, .int .i64 t.v, .int .i64 0] 31))
        go_wp2
        go_returns
        exact ⟨ret_bool (HN1.out rfl).symm, HB1.out⟩
      have hmb : (m == 0) = false := by simpa using hm
      go_wp2_with fail
      refine (HF.out _).mono ?_
      rintro e w1 ⟨rfl, hb⟩
      have hX1 := (Own3.new wr (.int .i64 t.k) (.int .i64 t.v) (.int .i64 m) 31).below hb (by simp)
      have hB1 := bcall (HB.out.alloc HB.out.size _) hb (by simp; have := HB.out.size; omega)
      clear hb
      obtain ⟨p0, p1, p2⟩ := hX1
      have HB1 := Lib.hid hB1
      clear hB1 e0 e1 e2
      cases q2
      · go_wp2
        go_returns
        exact ⟨ret_bool (HN1.out (by rw [hmb]; rfl)).symm, HB1.out⟩
      by_cases hk0 : k = 0
      · subst hk0
        have HU1 : Hid (upI xs (0 + 1) = true) := HUP.out (by rw [hmb]; rfl) (fun h => absurd h (by omega))
        clear HUP HN1 HN2 HCP HU
        go_wp2_with fail
        refine wp_region_beh (by kernel_rfl) (by kernel_rfl) ?_
        repeat (first | go_big_quiet_step (first | (with_reducible exact Calls.beh (HL.out _))) | quiet_step (first | (with_reducible exact Calls.beh (HL.out _))))
        refine wpQuiet_nil ?_
        intro _ hw'
        obtain ⟨g, hw''⟩ := hw'
        subst hw''
        have HB3 := Lib.hid (HB1.out.trans (g.h.mono HB1.out.size))
        clear p0 p1 p2
        generalize g.w = wq at *
        clear g
        go_wp2
        go_roundg (n - (0 + 1))
        case measure => omega
        case rel => exact ⟨0 + 1, by omega, by omega, by go_num, HB3.out, HU1.out⟩
      obtain ⟨k', rfl⟩ : ∃ k', k = k' + 1 := ⟨k - 1, by omega⟩
      have hkz : (0 : Int) < ((k' + 1 : Nat) : Int) := by omega
      have hc := HCP.out _ HB1.out (by omega)
      simp only [Nat.add_sub_cancel] at hc
      obtain ⟨f0, f1, f2⟩ := hc
      clear HCP f2
      replace p0 := fun p => beh_cell p0 p
      replace p1 := fun p => beh_cell p1 p
      replace p2 := fun p => beh_cell p2 p
      replace f0 := fun p => beh_cell f0 p
      replace f1 := fun p => beh_cell f1 p
      cases q3
      · go_wp2_with fail
        refine wp_region_beh (by kernel_rfl) (by kernel_rfl) ?_
        repeat (first | go_big_quiet_step (first | (with_reducible exact Calls.beh (HL.out _))) | quiet_step (first | (with_reducible exact Calls.beh (HL.out _))))
        refine wpQuiet_nil ?_
        intro _ hw'
        obtain ⟨g, hw''⟩ := hw'
        subst hw''
        have HB3 := Lib.hid (HB1.out.trans (g.h.mono HB1.out.size))
        clear p0 p1 p2
        generalize g.w = wq at *
        clear g
        go_wp2
        go_returns
        exact ⟨ret_bool (HN2.out (by omega) (by trivial)).symm, HB3.out⟩
      · have HU1 : Hid (upI xs (k' + 1 + 1) = true) := HUP.out (by rw [hmb]; rfl) (fun _ => rfl)
        clear HUP HN1 HN2 HU
        go_wp2_with fail
        refine wp_region_beh (by kernel_rfl) (by kernel_rfl) ?_
        repeat (first | go_big_quiet_step (first | (with_reducible exact Calls.beh (HL.out _))) | quiet_step (first | (with_reducible exact Calls.beh (HL.out _))))
        refine wpQuiet_nil ?_
        intro _ hw'
        obtain ⟨g, hw''⟩ := hw'
        subst hw''
        have HB3 := Lib.hid (HB1.out.trans (g.h.mono HB1.out.size))
        clear p0 p1 p2
        generalize g.w = wq at *
        clear g
        go_wp2
        go_roundg (n - (k' + 1 + 1))
        case measure => omega
        case rel => exact ⟨k' + 1 + 1, by omega, by omega, by go_num, HB3.out, HU1.out⟩
    · have hlz : ¬ (k : Int) < (n : Int) := by omega
      have : k = n := by omega
      subst this
      have HX : Hid (rightI xs = true) := by
        have h := HU.out
        rw [← HN.out] at h
        exact h
      clear HU hrow
      go_wp2
      go_returns
      exact ⟨ret_bool HX.out.symm, HB.out⟩
set_option maxHeartbeats 2000000 in
theorem bright_nil (p : Option Addr) (cap : Nat) (w : World) : Calls Try.prog 9 #[.slice p 0 cap] w (Ret (.bool (rightI [])) w) := by
  go_enter Try.func9, Try.ntmps9
  go_wp2
  refine wp_loop_rounds 1 ?_
  rw [rounds_succ]
  go_wp2
  go_returns
  exact ⟨ret_bool (by decide), Below.refl _ _⟩
theorem bright_any (xs : List IV) (v : Value) (w : World) (hl : xs.length ≤ 900000) (h : RI.Is w v xs) : Calls Try.prog 9 #[v] w (Ret (.bool (rightI xs)) w) := by
  rcases h with ⟨rfl, p, cap, rfl, _⟩ | ⟨_, b, off, cap, rfl, hb, hr⟩
  · exact bright_nil p cap w
  · exact bright_row xs b off cap w hl hb hr
end Go.Proofs.Ytbjecaajeokdoaa
