import Derived.Test.YtcaolilhemamiaaFa
import Derived.Test.YtcaolilhemamiaaCe
import Derived.Deep.LoopGhost
import Derived.Deep.Draws
import Derived.Deep.Light
namespace Go.Proofs.Ytcaolilhemamiaa
open Go.RowKit
set_option linter.unusedVariables false
set_option linter.unusedSimpArgs false

theorem ffits_any (n : Int) (w : World) : Calls Try.prog 56 #[.int .i64 n] w (Ret (.bool (fitsN n)) w) := by
  go_enter Try.func56, Try.ntmps56
  by_cases h1 : -2147483648 ≤ n
  · by_cases h2 : n ≤ 2147483648
    · go_wp2
      go_returns
      exact ⟨ret_bool (decide_eq_true ⟨h1, h2⟩).symm, Below.refl _ _⟩
    · go_wp2
      go_returns
      exact ⟨ret_bool (decide_eq_false fun h => absurd h.2 (by omega)).symm, Below.refl _ _⟩
  · go_wp2
    go_returns
    exact ⟨ret_bool (decide_eq_false fun h => absurd h.1 (by omega)).symm, Below.refl _ _⟩
theorem tlt_any (t u : TV) (w : World) : Calls Try.prog 57 #[t.val, u.val] w (Ret (.bool (t.lt u)) w) := less_any _ _ _ _ _ _ _ _ _ _ w
set_option maxRecDepth 100000 in
set_option maxHeartbeats 4000000 in
theorem fright_row (xs : List CV) (b off cap : Nat) (w : World) (hl : xs.length ≤ 900000) (hb : b < w.heap.size) (hr : RC.Row w b off xs) :
    Calls Try.prog 26 #[.slice (some ⟨b, off, none⟩) xs.length cap] w (Ret (.bool (rightC xs)) w) := by
  have hrow : Hid (∀ (W : World), Below w.heap.size w W → ∀ j, j < xs.length → _) := fun W hW j hj => atC (hr.below hW hb) j hj
  clear hr
  generalize hn : xs.length = n at hl
  have HN := Lib.hid hn
  clear hn
  go_enter Try.func26, Try.ntmps26
  go_wp2
  go_loopg [7] n (fun gg i wr => ∃ k : Nat, k ≤ n ∧ n - k ≤ gg ∧ i = .int .i64 k ∧ Hid (Below w.heap.size w wr) ∧ Hid (upC xs k = true))
  case atStart => exact ⟨0, Nat.zero_le _, by omega, rfl, Below.refl _ _, upC_zero _⟩
  case round =>
    obtain ⟨k, hkn, hg, rfl, HB, HU⟩ := hrel
    by_cases hlt : k < n
    · have hlz : (k : Int) < (n : Int) := by omega
      have hc := hrow.out wr HB.out k (by rw [HN.out]; exact hlt)
      have hno1 := fun h => right_no_ok (xs := xs) (k := k) (by rw [HN.out]; exact hlt) h
      have hno2 := fun h => right_no_lt (xs := xs) (k := k) (by rw [HN.out]; exact hlt) h
      have hup := fun h => upC_succ (xs := xs) (k := k) HU.out h
      have hcp := fun (W : World) (hW : Below w.heap.size w W) (h : 0 < k) => hrow.out W hW (k - 1) (by rw [HN.out]; omega)
      generalize xs[k]! = c at hc hno1 hno2 hup
      generalize xs[k - 1]! = c' at hno2 hup hcp
      obtain ⟨t, m⟩ := c
      obtain ⟨e0, e1, e2, e3, e4, e5⟩ := hc
      simp only at e0 e1 e2 e3 e4 e5
      have hOK := fun W => ok_any t W
      have hF := fun W => ffits_any m W
      have hL := fun W => tlt_any c'.t t W
      have hok : CV.ok ⟨t, m⟩ = (t.ok && (!(m == 0) && fitsN m)) := rfl
      rw [hok] at hno1 hup
      clear hok hrow
      generalize t.ok = q1 at hno1 hup hOK
      generalize fitsN m = q2 at hno1 hup hF
      generalize c'.t.lt t = q3 at hno2 hup hL
      have HOK := Lib.hid hOK; have HF := Lib.hid hF; have HL := Lib.hid hL
      clear hOK hF hL
      have HN1 := Lib.hid hno1; have HN2 := Lib.hid hno2; have HUP := Lib.hid hup; have HCP := Lib.hid hcp
      clear hno1 hno2 hup hcp
      go_wp2_with fail
      refine (HOK.out _).mono ?_
      rintro e w1 ⟨rfl, hb⟩
      have hX1 := (Own6.new wr (.int .i64 t.d) (.int .i64 t.c0) (.int .i64 t.c1) (.int .i64 t.c2) (.int .i64 t.c3) (.int .i64 m) 52).below hb (by simp)
      have hB1 := bcall (HB.out.alloc HB.out.size _) hb (by simp; have := HB.out.size; omega)
      have hl1 : wr.heap.size < w1.heap.size := by have := hb.size; simp at this; omega
      clear hb
      obtain ⟨p0, p1, p2, p3, p4, p5⟩ := hX1
      have HX1 := Lib.hid (Own6.mk p0 p1 p2 p3 p4 p5)
      have HB1 := Lib.hid hB1
      clear hB1
      clear e0 e1 e2 e3 e4 e5
      cases q1
      · go_wp2
        go_returns
        exact ⟨ret_bool (HN1.out rfl).symm, HB1.out⟩
      by_cases hm : m = 0
      · subst hm
        go_wp2
        go_returns
        exact ⟨ret_bool (HN1.out rfl).symm, HB1.out⟩
      have hmb : (m == 0) = false := by simpa using hm
      go_wp2_with fail
      clear p0 p1 p2 p3 p4 p5
      refine (HF.out _).mono ?_
      rintro e w2 ⟨rfl, hb⟩
      have hX2 := HX1.out.below hb hl1
      have hB2 := HB1.out.trans (hb.mono HB1.out.size)
      have hl2 : wr.heap.size < w2.heap.size := Nat.lt_of_lt_of_le hl1 hb.size
      clear hb
      obtain ⟨p0, p1, p2, p3, p4, p5⟩ := hX2
      have HX2 := Lib.hid (Own6.mk p0 p1 p2 p3 p4 p5)
      have HB2 := Lib.hid hB2
      clear hB2
      cases q2
      · go_wp2
        go_returns
        exact ⟨ret_bool (HN1.out (by rw [hmb]; rfl)).symm, HB2.out⟩
      by_cases hk0 : k = 0
      · subst hk0
        have HU1 : Hid (upC xs (0 + 1) = true) := HUP.out (by rw [hmb]; rfl) (fun h => absurd h (by omega))
        clear HUP HN1 HN2 HCP HU
        go_wp2_with fail
        refine wp_region_beh (by kernel_rfl) (by kernel_rfl) ?_
        repeat (first | go_big_quiet_step (first | (with_reducible exact Calls.beh (HL.out _))) | quiet_step (first | (with_reducible exact Calls.beh (HL.out _))))
        refine wpQuiet_nil ?_
        intro _ hw'
        obtain ⟨g, hw''⟩ := hw'
        subst hw''
        have HB3 := Lib.hid (HB2.out.trans (g.h.mono HB2.out.size))
        clear p0 p1 p2 p3 p4 p5
        generalize g.w = wq at *
        clear g
        go_wp2
        go_roundg (n - (0 + 1))
        case measure => omega
        case rel => exact ⟨0 + 1, by omega, by omega, by go_num, HB3.out, HU1.out⟩
      obtain ⟨k', rfl⟩ : ∃ k', k = k' + 1 := ⟨k - 1, by omega⟩
      have hkz : (0 : Int) < ((k' + 1 : Nat) : Int) := by omega
      have hc := HCP.out _ HB2.out (by omega)
      simp only [Nat.add_sub_cancel] at hc
      obtain ⟨f0, f1, f2, f3, f4, f5⟩ := hc
      clear HCP f5
      replace p0 := fun p => beh_cell p0 p
      replace p1 := fun p => beh_cell p1 p
      replace p2 := fun p => beh_cell p2 p
      replace p3 := fun p => beh_cell p3 p
      replace p4 := fun p => beh_cell p4 p
      replace p5 := fun p => beh_cell p5 p
      replace f0 := fun p => beh_cell f0 p
      replace f1 := fun p => beh_cell f1 p
      replace f2 := fun p => beh_cell f2 p
      replace f3 := fun p => beh_cell f3 p
      replace f4 := fun p => beh_cell f4 p
      cases q3
      · go_wp2_with fail
        refine wp_region_beh (by kernel_rfl) (by kernel_rfl) ?_
        repeat (first | go_big_quiet_step (first | (with_reducible exact Calls.beh (HL.out _))) | quiet_step (first | (with_reducible exact Calls.beh (HL.out _))))
        refine wpQuiet_nil ?_
        intro _ hw'
        obtain ⟨g, hw''⟩ := hw'
        subst hw''
        have HB3 := Lib.hid (HB2.out.trans (g.h.mono HB2.out.size))
        clear p0 p1 p2 p3 p4 p5
        generalize g.w = wq at *
        clear g
        go_wp2
        go_returns
        exact ⟨ret_bool (HN2.out (by omega) (by trivial)).symm, HB3.out⟩
      · have HU1 : Hid (upC xs (k' + 1 + 1) = true) := HUP.out (by rw [hmb]; rfl) (fun _ => rfl)
        clear HUP HN1 HN2 HU
        go_wp2_with fail
        refine wp_region_beh (by kernel_rfl) (by kernel_rfl) ?_
        repeat (first | go_big_quiet_step (first | (with_reducible exact Calls.beh (HL.out _))) | quiet_step (first | (with_reducible exact Calls.beh (HL.out _))))
        refine wpQuiet_nil ?_
        intro _ hw'
        obtain ⟨g, hw''⟩ := hw'
        subst hw''
        have HB3 := Lib.hid (HB2.out.trans (g.h.mono HB2.out.size))
        clear p0 p1 p2 p3 p4 p5
        generalize g.w = wq at *
        clear g
        go_wp2
        go_roundg (n - (k' + 1 + 1))
        case measure => omega
        case rel => exact ⟨k' + 1 + 1, by omega, by omega, by go_num, HB3.out, HU1.out⟩
      
    · have hlz : ¬ (k : Int) < (n : Int) := by omega
      have : k = n := by omega
      subst this
      have HX : Hid (rightC xs = true) := by
        have h := HU.out
        rw [← HN.out] at h
        exact h
      clear HU hrow
      go_wp2
      go_returns
      exact ⟨ret_bool HX.out.symm, HB.out⟩
set_option maxHeartbeats 2000000 in
theorem fright_nil (p : Option Addr) (cap : Nat) (w : World) : Calls Try.prog 26 #[.slice p 0 cap] w (Ret (.bool (rightC [])) w) := by
  go_enter Try.func26, Try.ntmps26
  go_wp2
  refine wp_loop_rounds 1 ?_
  rw [rounds_succ]
  go_wp2
  go_returns
  exact ⟨ret_bool (by decide), Below.refl _ _⟩
theorem fright_any (xs : List CV) (v : Value) (w : World) (hl : xs.length ≤ 900000) (h : RC.Is w v xs) : Calls Try.prog 26 #[v] w (Ret (.bool (rightC xs)) w) := by
  rcases h with ⟨rfl, p, cap, rfl, _⟩ | ⟨_, b, off, cap, rfl, hb, hr⟩
  · exact fright_nil p cap w
  · exact fright_row xs b off cap w hl hb hr
end Go.Proofs.Ytcaolilhemamiaa
