/- the document's Less, Right, There on bags -/
import Derived.Test.YthhceggcdaljdaaGreatG04
import Derived.Test.YthhceggcdaljdaaGreatG12
import Derived.Test.YthhceggcdaljdaaGreatG17
import Derived.Test.YthhceggcdaljdaaGreatG20
namespace Go.Proofs.YthhceggcdaljdaaGreat
open Go.RowKit
set_option linter.unusedVariables false
set_option linter.unusedSimpArgs false

theorem rlessI_any (a b : RV) (w : World) : Calls Tryz.prog 92 #[a.val, b.val] w (Ret (.bool (a.lt b)) w) := by
  obtain ⟨k1, v1⟩ := a
  obtain ⟨k2, v2⟩ := b
  show Calls _ _ #[.agg #[.int .i64 k1, .int .i64 v1], .agg #[.int .i64 k2, .int .i64 v2]] _ _
  have hlt : RV.lt ⟨k1, v1⟩ ⟨k2, v2⟩ = (decide (k1 < k2) || (decide (k1 = k2) && decide (v1 < v2))) := rfl
  rw [hlt]
  clear hlt
  by_cases h1 : k1 < k2
  · rw [decide_eq_true h1]
    go_enter Tryz.func92, Tryz.ntmps92
    go_wp2
    go_returns
    exact ⟨rfl, by repeat' (first | (with_reducible first | exact Below.refl _ _ | apply Below.alloc) | (simp; done))⟩
  · rw [decide_eq_false h1]
    by_cases h2 : k1 = k2
    · rw [decide_eq_true h2]
      have h2b : (k1 == k2) = true := by simpa using h2
      clear h2
      by_cases h3 : v1 < v2
      · rw [decide_eq_true h3]
        go_enter Tryz.func92, Tryz.ntmps92
        go_wp2
        go_returns
        exact ⟨rfl, by repeat' (first | (with_reducible first | exact Below.refl _ _ | apply Below.alloc) | (simp; done))⟩
      · rw [decide_eq_false h3]
        go_enter Tryz.func92, Tryz.ntmps92
        go_wp2
        go_returns
        exact ⟨rfl, by repeat' (first | (with_reducible first | exact Below.refl _ _ | apply Below.alloc) | (simp; done))⟩
    · rw [decide_eq_false h2]
      have h2b : (k1 == k2) = false := by simpa using h2
      go_enter Tryz.func92, Tryz.ntmps92
      go_wp2
      go_returns
      exact ⟨rfl, by repeat' (first | (with_reducible first | exact Below.refl _ _ | apply Below.alloc) | (simp; done))⟩
set_option maxRecDepth 100000 in
set_option maxHeartbeats 4000000 in
theorem rrightI_row (xs : List IV) (b off cap : Nat) (w : World) (hl : xs.length ≤ 900000) (hb : b < w.heap.size) (hr : RI.Row w b off xs) :
    Calls Tryz.prog 59 #[.slice (some ⟨b, off, none⟩) xs.length cap] w (Ret (.bool (rightI xs)) w) := by
  have hrow : Hid (∀ (W : World), Below w.heap.size w W → ∀ j, j < xs.length → _) := fun W hW j hj => atI (hr.below hW hb) j hj
  clear hr
  generalize hn : xs.length = n at hl
  have HN := Lib.hid hn
  clear hn
  go_enter Tryz.func59, Tryz.ntmps59
  go_wp2
  go_loopg [3] n (fun gg i wr => ∃ k : Nat, k ≤ n ∧ n - k ≤ gg ∧ i = .int .i64 k ∧ Hid (Below w.heap.size w wr) ∧ Hid (upI xs k = true))
  case atStart => exact ⟨0, Nat.zero_le _, by omega, rfl, Below.refl _ _, upI_zero _⟩
  case round =>
    obtain ⟨k, hkn, hg, rfl, HB, HU⟩ := hrel
    by_cases hlt : k < n
    · have hlz : (k : Int) < (n : Int) := by omega
      have hc := hrow.out wr HB.out k (by rw [HN.out]; exact hlt)
      have hno1 := fun h => rightI_no_ok (xs := xs) (k := k) (by rw [HN.out]; exact hlt) h
      have hno2 := fun h => rightI_no_lt (xs := xs) (k := k) (by rw [HN.out]; exact hlt) h
      have hup := fun h => upI_succ (xs := xs) (k := k) HU.out h
      have hcp := fun (W : World) (hW : Below w.heap.size w W) (h : 0 < k) => hrow.out W hW (k - 1) (by rw [HN.out]; omega)
      generalize xs[k]! = c at hc hno1 hno2 hup
      generalize xs[k - 1]! = c' at hno2 hup hcp
      obtain ⟨t, m⟩ := c
      obtain ⟨e0, e1, e2⟩ := hc
      simp only at e0 e1 e2
      have hL := fun W => rlessI_any c'.t t W
      have hok : IV.ok ⟨t, m⟩ = (!(m == 0) && fitsN m) := rfl
      rw [hok] at hno1 hup
      clear hok hrow
      generalize c'.t.lt t = q3 at hno2 hup hL
      have HL := Lib.hid hL
      clear hL
      have HN1 := Lib.hid hno1; have HN2 := Lib.hid hno2; have HUP := Lib.hid hup; have HCP := Lib.hid hcp
      clear hno1 hno2 hup hcp
      replace e0 := fun p => beh_cell e0 p
      replace e1 := fun p => beh_cell e1 p
      replace e2 := fun p => beh_cell e2 p
      by_cases hm : m = 0
      · subst hm
        go_wp2_with fail
        refine wp_region_beh (by kernel_rfl) (by kernel_rfl) ?_
        repeat (first | go_big_quiet_step (fail) | quiet_step (fail))
        refine wpQuiet_nil ?_
        intro _ hw'
        obtain ⟨g, hw''⟩ := hw'
        subst hw''
        have HB3 := Lib.hid (HB.out.trans (g.h.mono HB.out.size))
        clear e0 e1 e2
        generalize g.w = wq at *
        clear g
        go_wp2
        go_returns
        exact ⟨ret_bool (HN1.out rfl).symm, HB3.out⟩
      have hmb : (m == 0) = false := by simpa using hm
      by_cases hbig : 2147483648 < m
      · have hf : fitsN m = false := decide_eq_false (by omega)
        go_wp2_with fail
        refine wp_region_beh (by kernel_rfl) (by kernel_rfl) ?_
        repeat (first | go_big_quiet_step (fail) | quiet_step (fail))
        refine wpQuiet_nil ?_
        intro _ hw'
        obtain ⟨g, hw''⟩ := hw'
        subst hw''
        have HB3 := Lib.hid (HB.out.trans (g.h.mono HB.out.size))
        clear e0 e1 e2
        generalize g.w = wq at *
        clear g
        go_wp2
        go_returns
        exact ⟨ret_bool (HN1.out (by rw [hmb, hf]; rfl)).symm, HB3.out⟩
      have hbb : decide (2147483648 < m) = false := decide_eq_false hbig
      by_cases hsm : m < -2147483648
      · have hf : fitsN m = false := decide_eq_false (by omega)
        go_wp2_with fail
        refine wp_region_beh (by kernel_rfl) (by kernel_rfl) ?_
        repeat (first | go_big_quiet_step (fail) | quiet_step (fail))
        refine wpQuiet_nil ?_
        intro _ hw'
        obtain ⟨g, hw''⟩ := hw'
        subst hw''
        have HB3 := Lib.hid (HB.out.trans (g.h.mono HB.out.size))
        clear e0 e1 e2
        generalize g.w = wq at *
        clear g
        go_wp2
        go_returns
        exact ⟨ret_bool (HN1.out (by rw [hmb, hf]; rfl)).symm, HB3.out⟩
      have hsb : decide (m < -2147483648) = false := decide_eq_false hsm
      have hf : Hid (fitsN m = true) := decide_eq_true (by omega)
      by_cases hk0 : k = 0
      · subst hk0
        have HU1 : Hid (upI xs (0 + 1) = true) := HUP.out (by rw [hmb, hf.out]; rfl) (fun h => absurd h (by omega))
        clear HUP HN1 HN2 HCP HU
        go_wp2_with fail
        refine wp_region_beh (by kernel_rfl) (by kernel_rfl) ?_
        repeat (first | go_big_quiet_step (first | (with_reducible exact Calls.beh (HL.out _))) | quiet_step (first | (with_reducible exact Calls.beh (HL.out _))))
        refine wpQuiet_nil ?_
        intro _ hw'
        obtain ⟨g, hw''⟩ := hw'
        subst hw''
        have HB3 := Lib.hid (HB.out.trans (g.h.mono HB.out.size))
        clear e0 e1 e2
        generalize g.w = wq at *
        clear g
        go_wp2
        go_roundg (n - (0 + 1))
        case measure => omega
        case rel => exact ⟨0 + 1, by omega, by omega, by go_num, HB3.out, HU1.out⟩
      obtain ⟨k', rfl⟩ : ∃ k', k = k' + 1 := ⟨k - 1, by omega⟩
      have hkz : (0 : Int) < ((k' + 1 : Nat) : Int) := by omega
      have hc := HCP.out _ HB.out (by omega)
      simp only [Nat.add_sub_cancel] at hc
      obtain ⟨f0, f1, f2⟩ := hc
      clear HCP f2
      replace f0 := fun p => beh_cell f0 p
      replace f1 := fun p => beh_cell f1 p
      cases q3
      · go_wp2_with fail
        refine wp_region_beh (by kernel_rfl) (by kernel_rfl) ?_
        repeat (first | go_big_quiet_step (first | (with_reducible exact Calls.beh (HL.out _))) | quiet_step (first | (with_reducible exact Calls.beh (HL.out _))))
        refine wpQuiet_nil ?_
        intro _ hw'
        obtain ⟨g, hw''⟩ := hw'
        subst hw''
        have HB3 := Lib.hid (HB.out.trans (g.h.mono HB.out.size))
        clear e0 e1 e2
        generalize g.w = wq at *
        clear g
        go_wp2
        go_returns
        exact ⟨ret_bool (HN2.out (by omega) (by trivial)).symm, HB3.out⟩
      · have HU1 : Hid (upI xs (k' + 1 + 1) = true) := HUP.out (by rw [hmb, hf.out]; rfl) (fun _ => rfl)
        clear HUP HN1 HN2 HU
        go_wp2_with fail
        refine wp_region_beh (by kernel_rfl) (by kernel_rfl) ?_
        repeat (first | go_big_quiet_step (first | (with_reducible exact Calls.beh (HL.out _))) | quiet_step (first | (with_reducible exact Calls.beh (HL.out _))))
        refine wpQuiet_nil ?_
        intro _ hw'
        obtain ⟨g, hw''⟩ := hw'
        subst hw''
        have HB3 := Lib.hid (HB.out.trans (g.h.mono HB.out.size))
        clear e0 e1 e2
        generalize g.w = wq at *
        clear g
        go_wp2
        go_roundg (n - (k' + 1 + 1))
        case measure => omega
        case rel => exact ⟨k' + 1 + 1, by omega, by omega, by go_num, HB3.out, HU1.out⟩
    · have hlz : ¬ (k : Int) < (n : Int) := by omega
      have : k = n := by omega
      subst this
      have HX : Hid (rightI xs = true) := by
        have h := HU.out
        rw [← HN.out] at h
        exact h
      clear HU hrow
      go_wp2
      go_returns
      exact ⟨ret_bool HX.out.symm, HB.out⟩
set_option maxHeartbeats 2000000 in
theorem rrightI_nil (p : Option Addr) (cap : Nat) (w : World) : Calls Tryz.prog 59 #[.slice p 0 cap] w (Ret (.bool (rightI [])) w) := by
  go_enter Tryz.func59, Tryz.ntmps59
  go_wp2
  refine wp_loop_rounds 1 ?_
  rw [rounds_succ]
  go_wp2
  go_returns
  exact ⟨ret_bool (by decide), Below.refl _ _⟩
theorem rrightI_any (xs : List IV) (v : Value) (w : World) (hl : xs.length ≤ 900000) (h : RI.Is w v xs) : Calls Tryz.prog 59 #[v] w (Ret (.bool (rightI xs)) w) := by
  rcases h with ⟨rfl, p, cap, rfl, _⟩ | ⟨_, b, off, cap, rfl, hb, hr⟩
  · exact rrightI_nil p cap w
  · exact rrightI_row xs b off cap w hl hb hr
end Go.Proofs.YthhceggcdaljdaaGreat
/- the document's: whether a cell is right -/
namespace Go.Proofs.YthhceggcdaljdaaGreat
open Go.RowKit
set_option linter.unusedVariables false
set_option linter.unusedSimpArgs false

set_option maxRecDepth 100000 in
set_option maxHeartbeats 16000000 in
theorem rrightC_any (c : List SV) (v : Value) (w : World) (hs : SmallC 900000 c) (h : IsCl w v c) : Calls Tryz.prog 13 #[v] w (Ret (.bool (rightSl c)) w) := by
  obtain ⟨xs, hx0, hx1⟩ := h
  have HAr := Lib.hid hx1
  obtain ⟨p, k0, rfl, ho⟩ := isOpenedD hx0
  have HO := Lib.hid ho
  have hxn : xs.length = c.length := hx1.1
  have HSm := Lib.hid hs
  have hsz : c.length ≤ 900000 := hs.1
  rw [hxn] at HO ⊢
  clear hx0 hx1 ho hxn hs
  go_enter Tryz.func13, Tryz.ntmps13
  go_wp2
  go_loopg [3] c.length (fun gg i wr => ∃ k : Nat, k ≤ c.length ∧ c.length - k ≤ gg ∧ i = .int .i64 (k : Int) ∧ Hid (Below w.heap.size w wr) ∧ Hid (GoodSl (c.take k)))
  case atStart => exact ⟨0, Nat.zero_le _, by omega, rfl, Below.refl _ _, goodSl_nil⟩
  case round =>
    obtain ⟨k, hkn, hg, rfl, HB, HU⟩ := hrel
    by_cases hlt : k < c.length
    · have hlz : (k : Int) < (c.length : Int) := by omega
      obtain ⟨b, off, rfl, hb, hrow⟩ := HO.out k hlt
      have hxl : xs.length = c.length := HAr.out.1
      obtain ⟨e0, e1, e2, e3, e4, e5, e6, e7, e8, e9⟩ := atSl (hrow.below HB.out hb) k (by omega)
      have hxk := HAr.out.2 k hlt
      have hq := HSm.out.2 _ (getElem!_memS hlt)
      have hsk := hxk
      have HT := Lib.hid (fun W => rlist_ok xs[k]!.t W)
      have HE := Lib.hid (fun W => cempty_any xs[k]! W)
      have HA := Lib.hid (fun W (hW : Below w.heap.size w W) => rrightI_any (c[k]!).a _ W hq.1 (hsk.l0.below hW))
      have HBb := Lib.hid (fun W (hW : Below w.heap.size w W) => rrightI_any (c[k]!).b _ W hq.2.1 (hsk.l1.below hW))
      have HS := Lib.hid (fun W (hW : Below w.heap.size w W) => rrightI_any (c[k]!).s _ W hq.2.2 (hsk.l2.below hW))
      rw [hsk.emptyB] at HE
      have HRel : Hid (okS c[k]! = (TV.ok (c[k]!).t && (!(c[k]!).empty && (rightI (c[k]!).a && (rightI (c[k]!).b && rightI (c[k]!).s))))) := rfl
      have HPrev : Hid (∀ k', k = k' + 1 → ∀ W, Below w.heap.size w W → W.cell? ⟨b, off + k' * 10, none⟩ = some (.int .i64 (c[k']!).t.d) ∧ W.cell? ⟨b, off + k' * 10 + 1, none⟩ = some (.int .i64 (c[k']!).t.c0) ∧ W.cell? ⟨b, off + k' * 10 + 2, none⟩ = some (.int .i64 (c[k']!).t.c1) ∧ W.cell? ⟨b, off + k' * 10 + 3, none⟩ = some (.int .i64 (c[k']!).t.c2) ∧ W.cell? ⟨b, off + k' * 10 + 4, none⟩ = some (.int .i64 (c[k']!).t.c3)) := fun k' e W hW => by
        obtain ⟨a0, a1, a2, a3, a4, _⟩ := atSl (hrow.below hW hb) k' (by omega)
        rw [(HAr.out.2 k' (by omega)).t] at a0 a1 a2 a3 a4
        exact ⟨a0, a1, a2, a3, a4⟩
      have HNo1 := Lib.hid (fun h => rightSl_no_ok (c := c) (k := k) hlt h)
      have HNo2 : Hid (∀ k', k = k' + 1 → (c[k']!).t.lt (c[k]!).t = false → rightSl c = false) := fun k' e h => rightSl_no_lt (c := c) (k := k') (by omega) (by rw [← e]; exact h)
      have HUp := Lib.hid (fun h1 h2 => goodSl_succ (c := c) (k := k) hlt HU.out h1 h2)
      have hxt := hxk.t
      generalize okS c[k]! = okk at *
      rw [← hxt] at HNo2 HUp HRel
      generalize (c[k]!).empty = em at *
      generalize rightI (c[k]!).a = ra at *
      generalize rightI (c[k]!).b = rb at *
      generalize rightI (c[k]!).s = rs at *
      generalize xs[k]! = x at *
      obtain ⟨⟨td, t0, t1, t2, t3⟩, p0, n0, c0, p1, n1, c1, p2, n2, c2, xd, xf⟩ := x
      dsimp only at e0 e1 e2 e3 e4 e5 e6 e7 e8 e9 HT HE HA HBb HS HRel
      generalize TV.ok ⟨td, t0, t1, t2, t3⟩ = o at *
      clear hsk hxk hq hrow hxt HU
      go_upto_region 5 with (fail)
      refine gen_world (fun W3 => Below wr.heap.size wr W3 ∧ Boxed W3 wr.heap.size #[.int .i64 td, .int .i64 t0, .int .i64 t1, .int .i64 t2, .int .i64 t3, .slice p0 n0 c0, .slice p1 n1 c1, .slice p2 n2 c2, .bool xd, .bool xf] 40) ⟨by first | exact (Below.refl _ _).alloc (Nat.le_refl _) _ | go_grown, by first | exact heap_alloc_new _ _ | skip⟩ ?_
      rintro w3 ⟨hb3, hx3⟩
      have HBw := Lib.hid (bcall HB.out hb3 HB.out.size)
      have HX := Lib.hid hx3
      have b0 := hx3.cell 0
      have b1 := hx3.cell 1
      have b2 := hx3.cell 2
      have b3 := hx3.cell 3
      have b4 := hx3.cell 4
      have b5 := hx3.cell 5
      have b6 := hx3.cell 6
      have b7 := hx3.cell 7
      have b8 := hx3.cell 8
      have b9 := hx3.cell 9
      dsimp at b0 b1 b2 b3 b4 b5 b6 b7 b8 b9
      generalize wr.heap.size = bx at *
      clear e0 e1 e2 e3 e4 e5 e6 e7 e8 e9 hb3 hx3 HB
      go_wp2_with fail
      refine (HT.out _).mono ?_
      rintro e w4 ⟨lv, rfl, hb4⟩
      have HB4 := Lib.hid (bcall HBw.out hb4 HBw.out.size)
      have HX4 := Lib.hid (HX.out.below hb4 HX.out.lt)
      clear b0 b1 b2 b3 b4 b5 b6 b7 b8 b9 hb4 HX HBw HT
      cases o
      · have HR := Lib.hid (HNo1.out (by rw [HRel.out]; rfl))
        clear HNo1 HNo2 HUp HRel
        go_wp2
        go_returns
        exact ⟨ret_bool HR.out.symm, HB4.out⟩
      · have b0 := HX4.out.cell 0
        have b1 := HX4.out.cell 1
        have b2 := HX4.out.cell 2
        have b3 := HX4.out.cell 3
        have b4 := HX4.out.cell 4
        have b5 := HX4.out.cell 5
        have b6 := HX4.out.cell 6
        have b7 := HX4.out.cell 7
        have b8 := HX4.out.cell 8
        have b9 := HX4.out.cell 9
        dsimp at b0 b1 b2 b3 b4 b5 b6 b7 b8 b9
        go_wp2_with fail
        refine (HE.out _).mono ?_
        rintro e w5 ⟨rfl, hb5⟩
        have HB5 := Lib.hid (bcall HB4.out hb5 HB4.out.size)
        have HX5 := Lib.hid (HX4.out.below hb5 HX4.out.lt)
        clear b0 b1 b2 b3 b4 b5 b6 b7 b8 b9 hb5 HX4 HB4 HE
        rcases Bool.eq_false_or_eq_true em with rfl | rfl
        · have HR := Lib.hid (HNo1.out (by rw [HRel.out]; cases ra <;> cases rb <;> cases rs <;> rfl))
          clear HNo1 HNo2 HUp HRel
          go_wp2
          go_returns
          exact ⟨ret_bool HR.out.symm, HB5.out⟩
        · have b0 := HX5.out.cell 0
          have b1 := HX5.out.cell 1
          have b2 := HX5.out.cell 2
          have b3 := HX5.out.cell 3
          have b4 := HX5.out.cell 4
          have b5 := HX5.out.cell 5
          have b6 := HX5.out.cell 6
          have b7 := HX5.out.cell 7
          have b8 := HX5.out.cell 8
          have b9 := HX5.out.cell 9
          dsimp at b0 b1 b2 b3 b4 b5 b6 b7 b8 b9
          go_wp2_with fail
          refine (HA.out _ HB5.out).mono ?_
          rintro e w6 ⟨rfl, hb6⟩
          have HB6 := Lib.hid (bcall HB5.out hb6 HB5.out.size)
          have HX6 := Lib.hid (HX5.out.below hb6 HX5.out.lt)
          clear b0 b1 b2 b3 b4 b5 b6 b7 b8 b9 hb6 HX5 HB5 HA
          rcases (Bool.eq_false_or_eq_true ra).symm with rfl | rfl
          · have HR := Lib.hid (HNo1.out (by rw [HRel.out]; rfl))
            clear HNo1 HNo2 HUp HRel
            go_wp2
            go_returns
            exact ⟨ret_bool HR.out.symm, HB6.out⟩
          · have b0 := HX6.out.cell 0
            have b1 := HX6.out.cell 1
            have b2 := HX6.out.cell 2
            have b3 := HX6.out.cell 3
            have b4 := HX6.out.cell 4
            have b5 := HX6.out.cell 5
            have b6 := HX6.out.cell 6
            have b7 := HX6.out.cell 7
            have b8 := HX6.out.cell 8
            have b9 := HX6.out.cell 9
            dsimp at b0 b1 b2 b3 b4 b5 b6 b7 b8 b9
            go_wp2_with fail
            refine (HBb.out _ HB6.out).mono ?_
            rintro e w7 ⟨rfl, hb7⟩
            have HB7 := Lib.hid (bcall HB6.out hb7 HB6.out.size)
            have HX7 := Lib.hid (HX6.out.below hb7 HX6.out.lt)
            clear b0 b1 b2 b3 b4 b5 b6 b7 b8 b9 hb7 HX6 HB6 HBb
            rcases (Bool.eq_false_or_eq_true rb).symm with rfl | rfl
            · have HR := Lib.hid (HNo1.out (by rw [HRel.out]; rfl))
              clear HNo1 HNo2 HUp HRel
              go_wp2
              go_returns
              exact ⟨ret_bool HR.out.symm, HB7.out⟩
            · have b0 := HX7.out.cell 0
              have b1 := HX7.out.cell 1
              have b2 := HX7.out.cell 2
              have b3 := HX7.out.cell 3
              have b4 := HX7.out.cell 4
              have b5 := HX7.out.cell 5
              have b6 := HX7.out.cell 6
              have b7 := HX7.out.cell 7
              have b8 := HX7.out.cell 8
              have b9 := HX7.out.cell 9
              dsimp at b0 b1 b2 b3 b4 b5 b6 b7 b8 b9
              go_wp2_with fail
              refine (HS.out _ HB7.out).mono ?_
              rintro e w8 ⟨rfl, hb8⟩
              have HB8 := Lib.hid (bcall HB7.out hb8 HB7.out.size)
              have HX8 := Lib.hid (HX7.out.below hb8 HX7.out.lt)
              clear b0 b1 b2 b3 b4 b5 b6 b7 b8 b9 hb8 HX7 HB7 HS
              rcases (Bool.eq_false_or_eq_true rs).symm with rfl | rfl
              · have HR := Lib.hid (HNo1.out (by rw [HRel.out]; rfl))
                clear HNo1 HNo2 HUp HRel
                go_wp2
                go_returns
                exact ⟨ret_bool HR.out.symm, HB8.out⟩
              · have HUp2 := Lib.hid (HUp.out (by rw [HRel.out]; rfl))
                clear HNo1 HUp HRel
                by_cases hk0 : k = 0
                · subst hk0
                  have HU3 := Lib.hid (HUp2.out (fun k' q => absurd q (by omega)))
                  have d5 : decide ((0 : Int) < ((0 : Nat) : Int)) = false := rfl
                  clear HNo2 HUp2 HPrev
                  go_wp2_with fail
                  refine wp_region_beh (by kernel_rfl) (by kernel_rfl) ?_
                  repeat (first | go_big_quiet_step (fail) | quiet_step (fail))
                  refine wpQuiet_nil ?_
                  intro _ hw'
                  obtain ⟨g, hw''⟩ := hw'
                  subst hw''
                  have HBg := Lib.hid (bcall HB8.out g.h HB8.out.size)
                  generalize g.w = wq at *
                  clear g
                  go_wp2
                  go_roundg (c.length - (0 + 1))
                  case measure => omega
                  case rel => exact ⟨0 + 1, by omega, by omega, by go_num, HBg.out, HU3.out⟩
                · obtain ⟨k', rfl⟩ : ∃ k', k = k' + 1 := ⟨k - 1, by omega⟩
                  obtain ⟨p0, p1, p2, p3, p4⟩ := HPrev.out k' rfl w8 HB8.out
                  have HN2 := Lib.hid (HNo2.out k' rfl)
                  have HU3 := Lib.hid (fun (q : (c[k']!).t.lt ⟨td, t0, t1, t2, t3⟩ = true) => HUp2.out fun k2 e2 => by cases e2; exact q)
                  have HAq0 := fun W => rtlt_any (c[k']!).t ⟨td, t0, t1, t2, t3⟩ W
                  generalize TV.lt (c[k']!).t ⟨td, t0, t1, t2, t3⟩ = ab at *
                  generalize (c[k']!).t = y at *
                  have P0 := fun p => beh_cell p0 p
                  have P1 := fun p => beh_cell p1 p
                  have P2 := fun p => beh_cell p2 p
                  have P3 := fun p => beh_cell p3 p
                  have P4 := fun p => beh_cell p4 p
                  have B0 := fun p => beh_cell (show w8.cell? ⟨bx, 0, none⟩ = some (.int .i64 td) from HX8.out.cell 0) p
                  have B1 := fun p => beh_cell (show w8.cell? ⟨bx, 1, none⟩ = some (.int .i64 t0) from HX8.out.cell 1) p
                  have B2 := fun p => beh_cell (show w8.cell? ⟨bx, 2, none⟩ = some (.int .i64 t1) from HX8.out.cell 2) p
                  have B3 := fun p => beh_cell (show w8.cell? ⟨bx, 3, none⟩ = some (.int .i64 t2) from HX8.out.cell 3) p
                  have B4 := fun p => beh_cell (show w8.cell? ⟨bx, 4, none⟩ = some (.int .i64 t3) from HX8.out.cell 4) p
                  have HAq := Lib.hid (fun p : Beh w8 => HAq0 p.w)
                  have d5 : decide ((0 : Int) < ((k' + 1 : Nat) : Int)) = true := decide_eq_true (by omega)
                  have hkn' : (k' : Int) < (c.length : Int) := by omega
                  clear p0 p1 p2 p3 p4 HNo2 HUp2 HPrev HAq0 HX8
                  cases ab
                  · have HR := Lib.hid (HN2.out rfl)
                    clear HN2 HU3
                    go_wp2_with fail
                    refine wp_region_beh (by kernel_rfl) (by kernel_rfl) ?_
                    repeat (first | go_big_quiet_step (first | (with_reducible exact Calls.beh (HAq.out _))) | quiet_step (first | (with_reducible exact Calls.beh (HAq.out _))))
                    refine wpQuiet_nil ?_
                    intro _ hw'
                    obtain ⟨g, hw''⟩ := hw'
                    subst hw''
                    have HBg := Lib.hid (bcall HB8.out g.h HB8.out.size)
                    generalize g.w = wq at *
                    clear g
                    go_wp2
                    go_returns
                    exact ⟨ret_bool HR.out.symm, HBg.out⟩
                  · have HU4 := Lib.hid (HU3.out rfl)
                    clear HN2 HU3
                    go_wp2_with fail
                    refine wp_region_beh (by kernel_rfl) (by kernel_rfl) ?_
                    repeat (first | go_big_quiet_step (first | (with_reducible exact Calls.beh (HAq.out _))) | quiet_step (first | (with_reducible exact Calls.beh (HAq.out _))))
                    refine wpQuiet_nil ?_
                    intro _ hw'
                    obtain ⟨g, hw''⟩ := hw'
                    subst hw''
                    have HBg := Lib.hid (bcall HB8.out g.h HB8.out.size)
                    generalize g.w = wq at *
                    clear g
                    go_wp2
                    go_roundg (c.length - (k' + 1 + 1))
                    case measure => omega
                    case rel => exact ⟨k' + 1 + 1, by omega, by omega, by go_num, HBg.out, HU4.out⟩
    · obtain rfl : k = c.length := by omega
      have HR : Hid (rightSl c = true) := decide_eq_true (by have := HU.out; rw [List.take_length] at this; exact this)
      go_wp2
      go_returns
      exact ⟨ret_bool HR.out.symm, HB.out⟩
end Go.Proofs.YthhceggcdaljdaaGreat
