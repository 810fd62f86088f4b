/- the document's Less, Right, There on bags -/
import Derived.Test.YtmmojohjipmoaaaBt
namespace Go.Proofs.Ytmmojohjipmoaaa
open Go.RowKit
set_option linter.unusedVariables false
set_option linter.unusedSimpArgs false

theorem rless_any (a b : RV) (w : World) : Calls Try.prog 9 #[a.val, b.val] w (Ret (.bool (a.lt b)) w) := by
  obtain ⟨k1, v1⟩ := a
  obtain ⟨k2, v2⟩ := b
  show Calls _ _ #[.agg #[.int .i64 k1, .int .i64 v1], .agg #[.int .i64 k2, .int .i64 v2]] _ _
  have hlt : RV.lt ⟨k1, v1⟩ ⟨k2, v2⟩ = (decide (k1 < k2) || (decide (k1 = k2) && decide (v1 < v2))) := rfl
  rw [hlt]
  clear hlt
  by_cases h1 : k1 < k2
  · rw [decide_eq_true h1]
    go_enter Try.func9, Try.ntmps9
    go_wp2
    go_returns
    exact ⟨rfl, by repeat' (first | (with_reducible first | exact Below.refl _ _ | apply Below.alloc) | (simp; done))⟩
  · rw [decide_eq_false h1]
    by_cases h2 : k1 = k2
    · rw [decide_eq_true h2]
      have h2b : (k1 == k2) = true := by simpa using h2
      clear h2
      by_cases h3 : v1 < v2
      · rw [decide_eq_true h3]
        go_enter Try.func9, Try.ntmps9
        go_wp2
        go_returns
        exact ⟨rfl, by repeat' (first | (with_reducible first | exact Below.refl _ _ | apply Below.alloc) | (simp; done))⟩
      · rw [decide_eq_false h3]
        go_enter Try.func9, Try.ntmps9
        go_wp2
        go_returns
        exact ⟨rfl, by repeat' (first | (with_reducible first | exact Below.refl _ _ | apply Below.alloc) | (simp; done))⟩
    · rw [decide_eq_false h2]
      have h2b : (k1 == k2) = false := by simpa using h2
      go_enter Try.func9, Try.ntmps9
      go_wp2
      go_returns
      exact ⟨rfl, by repeat' (first | (with_reducible first | exact Below.refl _ _ | apply Below.alloc) | (simp; done))⟩
set_option maxRecDepth 100000 in
set_option maxHeartbeats 4000000 in
theorem rright_row (xs : List IV) (b off cap : Nat) (w : World) (hl : xs.length ≤ 900000) (hb : b < w.heap.size) (hr : RI.Row w b off xs) :
    Calls Try.prog 11 #[.slice (some ⟨b, off, none⟩) xs.length cap] w (Ret (.bool (rightI xs)) w) := by
  have hrow : Hid (∀ (W : World), Below w.heap.size w W → ∀ j, j < xs.length → _) := fun W hW j hj => atI (hr.below hW hb) j hj
  clear hr
  generalize hn : xs.length = n at hl
  have HN := Lib.hid hn
  clear hn
  go_enter Try.func11, Try.ntmps11
  go_wp2
  go_loopg [3] n (fun gg i wr => ∃ k : Nat, k ≤ n ∧ n - k ≤ gg ∧ i = .int .i64 k ∧ Hid (Below w.heap.size w wr) ∧ Hid (upI xs k = true))
  case atStart => exact ⟨0, Nat.zero_le _, by omega, rfl, Below.refl _ _, upI_zero _⟩
  case round =>
    obtain ⟨k, hkn, hg, rfl, HB, HU⟩ := hrel
    by_cases hlt : k < n
    · have hlz : (k : Int) < (n : Int) := by omega
      have hc := hrow.out wr HB.out k (by rw [HN.out]; exact hlt)
      have hno1 := fun h => rightI_no_ok (xs := xs) (k := k) (by rw [HN.out]; exact hlt) h
      have hno2 := fun h => rightI_no_lt (xs := xs) (k := k) (by rw [HN.out]; exact hlt) h
      have hup := fun h => upI_succ (xs := xs) (k := k) HU.out h
      have hcp := fun (W : World) (hW : Below w.heap.size w W) (h : 0 < k) => hrow.out W hW (k - 1) (by rw [HN.out]; omega)
      generalize xs[k]! = c at hc hno1 hno2 hup
      generalize xs[k - 1]! = c' at hno2 hup hcp
      obtain ⟨t, m⟩ := c
      obtain ⟨e0, e1, e2⟩ := hc
      simp only at e0 e1 e2
      have hL := fun W => rless_any c'.t t W
      have hok : IV.ok ⟨t, m⟩ = (!(m == 0) && fitsN m) := rfl
      rw [hok] at hno1 hup
      clear hok hrow
      generalize c'.t.lt t = q3 at hno2 hup hL
      have HL := Lib.hid hL
      clear hL
      have HN1 := Lib.hid hno1; have HN2 := Lib.hid hno2; have HUP := Lib.hid hup; have HCP := Lib.hid hcp
      clear hno1 hno2 hup hcp
      replace e0 := fun p => beh_cell e0 p
      replace e1 := fun p => beh_cell e1 p
      replace e2 := fun p => beh_cell e2 p
      by_cases hm : m = 0
      · subst hm
        go_wp2_with fail
        refine wp_region_beh (by kernel_rfl) (by kernel_rfl) ?_
        repeat (first | go_big_quiet_step (fail) | quiet_step (fail))
        refine wpQuiet_nil ?_
        intro _ hw'
        obtain ⟨g, hw''⟩ := hw'
        subst hw''
        have HB3 := Lib.hid (HB.out.trans (g.h.mono HB.out.size))
        clear e0 e1 e2
        generalize g.w = wq at *
        clear g
        go_wp2
        go_returns
        exact ⟨ret_bool (HN1.out rfl).symm, HB3.out⟩
      have hmb : (m == 0) = false := by simpa using hm
      by_cases hbig : 2147483648 < m
      · have hf : fitsN m = false := decide_eq_false (by omega)
        go_wp2_with fail
        refine wp_region_beh (by kernel_rfl) (by kernel_rfl) ?_
        repeat (first | go_big_quiet_step (fail) | quiet_step (fail))
        refine wpQuiet_nil ?_
        intro _ hw'
        obtain ⟨g, hw''⟩ := hw'
        subst hw''
        have HB3 := Lib.hid (HB.out.trans (g.h.mono HB.out.size))
        clear e0 e1 e2
        generalize g.w = wq at *
        clear g
        go_wp2
        go_returns
        exact ⟨ret_bool (HN1.out (by rw [hmb, hf]; rfl)).symm, HB3.out⟩
      have hbb : decide (2147483648 < m) = false := decide_eq_false hbig
      by_cases hsm : m < -2147483648
      · have hf : fitsN m = false := decide_eq_false (by omega)
        go_wp2_with fail
        refine wp_region_beh (by kernel_rfl) (by kernel_rfl) ?_
        repeat (first | go_big_quiet_step (fail) | quiet_step (fail))
        refine wpQuiet_nil ?_
        intro _ hw'
        obtain ⟨g, hw''⟩ := hw'
        subst hw''
        have HB3 := Lib.hid (HB.out.trans (g.h.mono HB.out.size))
        clear e0 e1 e2
        generalize g.w = wq at *
        clear g
        go_wp2
        go_returns
        exact ⟨ret_bool (HN1.out (by rw [hmb, hf]; rfl)).symm, HB3.out⟩
      have hsb : decide (m < -2147483648) = false := decide_eq_false hsm
      have hf : Hid (fitsN m = true) := decide_eq_true (by omega)
      by_cases hk0 : k = 0
      · subst hk0
        have HU1 : Hid (upI xs (0 + 1) = true) := HUP.out (by rw [hmb, hf.out]; rfl) (fun h => absurd h (by omega))
        clear HUP HN1 HN2 HCP HU
        go_wp2_with fail
        refine wp_region_beh (by kernel_rfl) (by kernel_rfl) ?_
        repeat (first | go_big_quiet_step (first | (with_reducible exact Calls.beh (HL.out _))) | quiet_step (first | (with_reducible exact Calls.beh (HL.out _))))
        refine wpQuiet_nil ?_
        intro _ hw'
        obtain ⟨g, hw''⟩ := hw'
        subst hw''
        have HB3 := Lib.hid (HB.out.trans (g.h.mono HB.out.size))
        clear e0 e1 e2
        generalize g.w = wq at *
        clear g
        go_wp2
        go_roundg (n - (0 + 1))
        case measure => omega
        case rel => exact ⟨0 + 1, by omega, by omega, by go_num, HB3.out, HU1.out⟩
      obtain ⟨k', rfl⟩ : ∃ k', k = k' + 1 := ⟨k - 1, by omega⟩
      have hkz : (0 : Int) < ((k' + 1 : Nat) : Int) := by omega
      have hc := HCP.out _ HB.out (by omega)
      simp only [Nat.add_sub_cancel] at hc
      obtain ⟨f0, f1, f2⟩ := hc
      clear HCP f2
      replace f0 := fun p => beh_cell f0 p
      replace f1 := fun p => beh_cell f1 p
      cases q3
      · go_wp2_with fail
        refine wp_region_beh (by kernel_rfl) (by kernel_rfl) ?_
        repeat (first | go_big_quiet_step (first | (with_reducible exact Calls.beh (HL.out _))) | quiet_step (first | (with_reducible exact Calls.beh (HL.out _))))
        refine wpQuiet_nil ?_
        intro _ hw'
        obtain ⟨g, hw''⟩ := hw'
        subst hw''
        have HB3 := Lib.hid (HB.out.trans (g.h.mono HB.out.size))
        clear e0 e1 e2
        generalize g.w = wq at *
        clear g
        go_wp2
        go_returns
        exact ⟨ret_bool (HN2.out (by omega) (by trivial)).symm, HB3.out⟩
      · have HU1 : Hid (upI xs (k' + 1 + 1) = true) := HUP.out (by rw [hmb, hf.out]; rfl) (fun _ => rfl)
        clear HUP HN1 HN2 HU
        go_wp2_with fail
        refine wp_region_beh (by kernel_rfl) (by kernel_rfl) ?_
        repeat (first | go_big_quiet_step (first | (with_reducible exact Calls.beh (HL.out _))) | quiet_step (first | (with_reducible exact Calls.beh (HL.out _))))
        refine wpQuiet_nil ?_
        intro _ hw'
        obtain ⟨g, hw''⟩ := hw'
        subst hw''
        have HB3 := Lib.hid (HB.out.trans (g.h.mono HB.out.size))
        clear e0 e1 e2
        generalize g.w = wq at *
        clear g
        go_wp2
        go_roundg (n - (k' + 1 + 1))
        case measure => omega
        case rel => exact ⟨k' + 1 + 1, by omega, by omega, by go_num, HB3.out, HU1.out⟩
    · have hlz : ¬ (k : Int) < (n : Int) := by omega
      have : k = n := by omega
      subst this
      have HX : Hid (rightI xs = true) := by
        have h := HU.out
        rw [← HN.out] at h
        exact h
      clear HU hrow
      go_wp2
      go_returns
      exact ⟨ret_bool HX.out.symm, HB.out⟩
set_option maxHeartbeats 2000000 in
theorem rright_nil (p : Option Addr) (cap : Nat) (w : World) : Calls Try.prog 11 #[.slice p 0 cap] w (Ret (.bool (rightI [])) w) := by
  go_enter Try.func11, Try.ntmps11
  go_wp2
  refine wp_loop_rounds 1 ?_
  rw [rounds_succ]
  go_wp2
  go_returns
  exact ⟨ret_bool (by decide), Below.refl _ _⟩
theorem rright_any (xs : List IV) (v : Value) (w : World) (hl : xs.length ≤ 900000) (h : RI.Is w v xs) : Calls Try.prog 11 #[v] w (Ret (.bool (rightI xs)) w) := by
  rcases h with ⟨rfl, p, cap, rfl, _⟩ | ⟨_, b, off, cap, rfl, hb, hr⟩
  · exact rright_nil p cap w
  · exact rright_row xs b off cap w hl hb hr
set_option maxRecDepth 100000 in
set_option maxHeartbeats 4000000 in
theorem rthere_row (xs : List IV) (b off cap : Nat) (w : World) (hl : xs.length ≤ 900000) (hb : b < w.heap.size) (hr : RI.Row w b off xs) (h0 : xs ≠ []) :
    Calls Try.prog 20 #[.slice (some ⟨b, off, none⟩) xs.length cap] w (RI.Made (thereI xs) w) := by
  have hrow : Hid (∀ (W : World), Below w.heap.size w W → ∀ j, j < xs.length → _) := fun W hW j hj => atI (hr.below hW hb) j hj
  have hRT := rright_any xs (.slice (some ⟨b, off, none⟩) xs.length cap) w hl (.inr ⟨h0, b, off, cap, rfl, hb, hr⟩)
  have hno : rightI xs = false → thereI xs = [] := fun h => by unfold thereI; rw [h]; rfl
  have hyes : rightI xs = true → thereI xs = posI xs := fun h => by unfold thereI; rw [h]; rfl
  have hpos : 0 < xs.length := by cases xs with | nil => exact absurd rfl h0 | cons => simp
  generalize rightI xs = q at hRT hno hyes
  generalize thereI xs = res at hno hyes ⊢
  have HRT := Lib.hid hRT; have HNo := Lib.hid hno; have HYes := Lib.hid hyes
  clear hr hRT hno hyes h0
  generalize hn : xs.length = n at hl HRT hrow hpos
  have HN := Lib.hid hn
  clear hn
  go_enter Try.func20, Try.ntmps20
  go_wp2_with fail
  refine (HRT.out).mono ?_
  rintro e w1 ⟨rfl, hb1⟩
  have HB1 := Lib.hid hb1
  clear hb1 HRT
  cases q
  · have hz : (0 : Int) < (n : Int) := by omega
    go_wp2
    refine wp_loop_rounds 1 ?_
    rw [rounds_succ]
    go_wp2
    go_returns
    exact ⟨_, rfl, by rw [HNo.out (by trivial)]; exact RowKind.Own.nil RI _ _, HB1.out⟩
  · clear hpos
    go_wp2
    go_loopg [3, 5] n (fun gg v i wr => ∃ k : Nat, k ≤ n ∧ n - k ≤ gg ∧ i = .int .i64 k ∧ Hid (Below w.heap.size w wr) ∧ Hid (RI.Own w.heap.size wr v (posI (xs.take k))))
    case atStart => exact ⟨0, Nat.zero_le _, by omega, rfl, HB1.out, RowKind.Own.nil RI _ _⟩
    case round =>
      obtain ⟨k, hkn, hg, rfl, HB, HO⟩ := hrel
      by_cases hlt : k < n
      · have hlz : (k : Int) < (n : Int) := by omega
        have hc := hrow.out wr HB.out k hlt
        have hts := pos_take_succ (xs := xs) (k := k) (by rw [HN.out]; exact hlt)
        have hlen : (posI (xs.take k)).length ≤ 900000 := by
          have h1 := pos_length (xs.take k)
          rw [List.length_take] at h1
          omega
        generalize posI (xs.take k) = acc at HO hts hlen
        generalize xs[k]! = c at hc hts
        obtain ⟨t, m⟩ := c
        obtain ⟨e0, e1, e2⟩ := hc
        simp only at e0 e1 e2 hts
        have hz := HB.out.size
        clear hrow
        by_cases hm : 0 < m
        · rw [if_pos hm] at hts
          have HTS := Lib.hid hts
          clear hts
          go_wp2_with (at_builtin; refine RowKind.Own.push (R := RI) (y := ⟨t, m⟩) HO.out HB.out hz rfl _ _ rfl rfl _ rfl hlen (Nat.le_refl _) ?_; intro v2 w2 hO2 hB2 hz2)
          go_roundg (n - (k + 1))
          case measure => omega
          case rel =>
            refine ⟨k + 1, by omega, by omega, by go_num, hB2, ?_⟩
            show RI.Own _ _ _ _
            rw [HTS.out]
            exact hO2
        · rw [if_neg hm, List.append_nil] at hts
          have HTS := Lib.hid hts
          clear hts
          go_wp2
          go_roundg (n - (k + 1))
          case measure => omega
          case rel =>
            refine ⟨k + 1, by omega, by omega, by go_num, HB.out, ?_⟩
            show RI.Own _ _ _ _
            rw [HTS.out]
            exact HO.out
      · have hlz : ¬ (k : Int) < (n : Int) := by omega
        have : k = n := by omega
        subst this
        have HX : Hid (RI.Own w.heap.size wr u3 (posI xs)) := by
          have h := HO.out
          rw [List.take_of_length_le (by rw [HN.out]; exact Nat.le_refl _)] at h
          exact h
        clear HO hrow
        go_wp2
        go_returns
        exact ⟨_, rfl, by rw [HYes.out (by trivial)]; exact HX.out, HB.out⟩
set_option maxRecDepth 100000 in
set_option maxHeartbeats 4000000 in
theorem rthere_nil (p : Option Addr) (cap : Nat) (w : World) : Calls Try.prog 20 #[.slice p 0 cap] w (RI.Made (thereI []) w) := by
  have HRT := Lib.hid (rright_nil p cap w)
  have hr : rightI [] = true := by decide
  have hf : thereI [] = [] := by unfold thereI; rw [hr]; rfl
  rw [hr] at HRT
  rw [hf]
  go_enter Try.func20, Try.ntmps20
  go_wp2_with fail
  refine (HRT.out).mono ?_
  rintro e w1 ⟨rfl, hb1⟩
  have HB1 := Lib.hid hb1
  clear hb1 HRT
  go_wp2
  refine wp_loop_rounds 1 ?_
  rw [rounds_succ]
  go_wp2
  go_returns
  exact ⟨_, rfl, RowKind.Own.nil RI _ _, HB1.out⟩
theorem rthere_any (xs : List IV) (v : Value) (w : World) (hl : xs.length ≤ 900000) (h : RI.Is w v xs) : Calls Try.prog 20 #[v] w (RI.Made (thereI xs) w) := by
  rcases h with ⟨rfl, p, cap, rfl, _⟩ | ⟨h0, b, off, cap, rfl, hb, hr⟩
  · exact rthere_nil p cap w
  · exact rthere_row xs b off cap w hl hb hr h0
end Go.Proofs.Ytmmojohjipmoaaa
