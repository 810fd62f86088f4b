/- the walk of the document's Add on bags -/
import Derived.Test.YthhceggcdaljdaaGreatG25
import Derived.Laws.MakeOwn
namespace Go.Proofs.YthhceggcdaljdaaGreat
open Go.RowKit
set_option linter.unusedVariables false
set_option linter.unusedSimpArgs false
attribute [local go_sem ↓] eqRec neRec

set_option maxRecDepth 100000 in
set_option maxHeartbeats 8000000 in
theorem radd_any (xs : List IV) (r : RV) (n : Int) (v : Value) (w : World) (hl : xs.length ≤ 400000) (h64 : -9223372036854775808 ≤ n ∧ n ≤ 9223372036854775807) (h : RI.Is w v xs) :
    Calls Tryz.prog 53 #[v, r.val, .int .i64 n] w (RI.Made (addI xs r n) w) := by
  obtain ⟨rk, rv⟩ := r
  have HI := Lib.hid h
  obtain ⟨p, c, rfl⟩ := h.slice
  have hB0 : Below (w.heap.size + 1) (w.alloc (.cells #[.int .i64 rk, .int .i64 rv] 27)) ((w.alloc (.cells #[.int .i64 rk, .int .i64 rv] 27)).alloc (.cells #[] 57)) := (Below.refl _ _).alloc (by simp) _
  have hBw : Below w.heap.size w (w.alloc (.cells #[.int .i64 rk, .int .i64 rv] 27)) := (Below.refl _ _).alloc (Nat.le_refl _) _
  have HI2 := Lib.hid ((HI.out.below hBw).below (hB0.mono (by simp)))
  have hO0 : RI.Own (w.heap.size + 1) ((w.alloc (.cells #[.int .i64 rk, .int .i64 rv] 27)).alloc (.cells #[] 57)) (.slice (some ⟨w.heap.size + 1, 0, none⟩) 0 0) [] := by
    have q := World.ownsRow_made (base := w.heap.size + 1) (e := 57) (size := 3) (w.alloc (.cells #[.int .i64 rk, .int .i64 rv] 27)) #[] 0 (by simp) (Nat.zero_le _) rfl
    rw [World.size_alloc] at q
    exact q
  have HO0 := Lib.hid hO0; have HB0 := Lib.hid hB0; have HBw := Lib.hid hBw
  have HZ0 : Hid (w.heap.size + 1 ≤ ((w.alloc (.cells #[.int .i64 rk, .int .i64 rv] 27)).alloc (.cells #[] 57)).heap.size) := by show _ ≤ _; simp
  have HL0 : Hid (([] : List IV).length + xs.length ≤ 1000000) := by show _ ≤ _; simp; omega
  have HX0 := Lib.hid (Boxed.new w #[.int .i64 rk, .int .i64 rv] 27)
  clear h hO0 hB0 hBw
  have hnot := fun h => addI_not (b := xs) ⟨rk, rv⟩ n h
  have hunf := fun h => addI_unfit (b := xs) ⟨rk, rv⟩ (n := n) h
  have hfit := fun h1 h2 => addI_fit (b := xs) ⟨rk, rv⟩ (n := n) h1 h2
  have HG : Hid (rightI xs = true → goodI xs) := fun h => (rightI_iff xs).1 h
  have HR := Lib.hid (fun (W : World) (u : Value) (hu : RI.Is W u xs) => rrightI_any xs u W (by omega) hu)
  generalize addI xs ⟨rk, rv⟩ n = res at *
  generalize rightI xs = q at *
  have HNot := Lib.hid hnot; have HUnf := Lib.hid hunf; have HFit := Lib.hid hfit
  clear hnot hunf hfit
  have HLn : Hid (xs.length ≤ 400000) := hl
  generalize hn : xs.length = m at hl HI HI2
  have HN := Lib.hid hn
  clear hn
  show Calls _ _ #[_, .agg #[.int .i64 rk, .int .i64 rv], _] _ _
  go_enter Tryz.func53, Tryz.ntmps53
  go_wp2_with (at_builtin; refine RowKind.Own.appendAny (R := RI) (ys := xs) HO0.out HB0.out HZ0.out rfl _ _ rfl rfl rfl HI2.out HL0.out ?_; intro vs w2 hO2 hB2 hz2)
  have HS2 : Hid (RI.Own (w.heap.size + 1) w2 vs xs) := hO2
  have HB2 := Lib.hid hB2
  have HI3 := Lib.hid ((HI.out.below HBw.out).below (HB2.out.mono (by simp)))
  have HX2 := Lib.hid (HX0.out.below HB2.out (by omega))
  have HW2 := Lib.hid (HBw.out.trans (HB2.out.mono (by omega)))
  clear hO2 hB2 HO0 HB0 HZ0 HL0 HX0 HI2 HBw
  go_wp2_with fail
  refine (HR.out _ _ HI3.out).mono ?_
  rintro e w3 ⟨rfl, hb⟩
  have HS3 := Lib.hid (HS2.out.below hb)
  have HI4 := Lib.hid (HI3.out.below hb)
  have HX3 := Lib.hid (HX2.out.below hb HX2.out.lt)
  have HW3 := Lib.hid (HW2.out.trans (hb.mono HW2.out.size))
  have HB3 := Lib.hid (HB2.out.size)
  clear hb HR HS2 HI3 HX2 HW2 HB2
  have HZ3 : Hid (w.heap.size + 1 ≤ w3.heap.size) := HX3.out.lt
  cases q
  · go_wp2
    go_returns
    rw [HNot.out (by trivial)]
    exact ⟨_, rfl, HS3.out.mono (by omega), HW3.out⟩
  have hG := HG.out (by trivial)
  by_cases hbig : 2147483648 < n
  · go_wp2
    go_returns
    rw [HUnf.out (decide_eq_false (by omega))]
    exact ⟨_, rfl, HS3.out.mono (by omega), HW3.out⟩
  by_cases hsm : n < -2147483648
  · go_wp2
    go_returns
    rw [HUnf.out (decide_eq_false (by omega))]
    exact ⟨_, rfl, HS3.out.mono (by omega), HW3.out⟩
  have HRes := Lib.hid (HFit.out (by trivial) (decide_eq_true (by omega)))
  have HGd := Lib.hid hG
  clear HNot HUnf HFit HG hG
  rcases HI4.out with ⟨hx, q0, d0, eq0, _⟩ | ⟨hne, b, off, cap, eq0, hbl, hrow⟩
  · have hm0 : m = 0 := by have := HN.out; rw [hx] at this; simpa using this.symm
    subst hm0
    have HR0 : Hid (res = if n = 0 then [] else [⟨⟨rk, rv⟩, n⟩]) := by
      show _ = _
      rw [HRes.out, hx, nil_mergedI]
    clear HI HI4 hx eq0 HRes HGd HN HLn
    by_cases hn0 : n = 0
    · subst hn0
      go_wp2
      refine wp_loop_rounds 1 ?_
      rw [rounds_succ]
      go_wp2
      go_returns
      rw [HR0.out]
      exact ⟨_, rfl, RowKind.Own.nil RI _ _, HW3.out⟩
    · have hnb : (n == 0) = false := by simpa using hn0
      obtain ⟨x0, x1⟩ := HX3.out.two
      have hsz := HW3.out.size
      have HRn : Hid (res = [] ++ [⟨⟨rk, rv⟩, n⟩]) := by show _ = _; rw [HR0.out, if_neg hn0]; rfl
      clear hn0 HR0
      go_wp2
      refine wp_loop_rounds 1 ?_
      rw [rounds_succ]
      go_wp2_with (at_builtin; refine RowKind.Own.push (R := RI) (y := ⟨⟨rk, rv⟩, n⟩) (RowKind.Own.nil RI w.heap.size w3) HW3.out hsz rfl _ _ rfl rfl _ rfl (by simp) (Nat.le_refl _) ?_; intro v5 w5 hO5 hB5 hz5)
      go_returns
      rw [HRn.out]
      exact ⟨_, rfl, hO5, hB5⟩
  · simp only [Value.slice.injEq] at eq0
    obtain ⟨rfl, hnx, rfl⟩ := eq0
    clear hnx
    have HRow : Hid (∀ W, Below w3.heap.size w3 W → ∀ j, j < m → _) := fun W hW j hj => atI (hrow.below hW hbl) j (by rw [HN.out]; exact hj)
    have HXs : Hid (∀ W, Below w3.heap.size w3 W → RI.Own (w.heap.size + 1) W vs xs) := fun W hW => HS3.out.below hW
    have HXb : Hid (∀ W, Below w3.heap.size w3 W → W.cell? ⟨w.heap.size, 0, none⟩ = some (.int .i64 rk) ∧ W.cell? ⟨w.heap.size, 1, none⟩ = some (.int .i64 rv)) := fun W hW => (HX3.out.below hW HX3.out.lt).two
    clear hrow hne HI HI4 HS3 HX3
    go_wp2
    go_loopg [8, 9, 10] m (fun gg vo vd i wr => ∃ (k : Nat) (out : List IV) (d : Bool), k ≤ m ∧ m - k ≤ gg ∧ i = .int .i64 k ∧ vd = .bool d ∧ Hid (AddInv xs ⟨rk, rv⟩ n k out d) ∧ Hid (RI.Own w3.heap.size wr vo out) ∧ Hid (Below w3.heap.size w3 wr))
    case atStart => exact ⟨0, [], (n == 0), Nat.zero_le _, by omega, rfl, rfl, add_start _ _ _, RowKind.Own.nil RI _ _, Below.refl _ _⟩
    case round =>
      obtain ⟨k, out, d, hkm, hgg, rfl, rfl, HA, HO, HB⟩ := hrel
      have hlen : out.length ≤ 900000 := by have := HA.out.len; have := HLn.out; have := HN.out; omega
      have hlen8 : out.length ≤ 800000 := by have := HA.out.len; have := HLn.out; have := HN.out; omega
      by_cases hlt : k < m
      · have hlz : (k : Int) < (m : Int) := by omega
        have hkl : k < xs.length := by rw [HN.out]; exact hlt
        obtain ⟨e0, e1, e2⟩ := HRow.out wr HB.out k hlt
        obtain ⟨b0, b1⟩ := HXb.out wr HB.out
        have hxm : xs[k]! ∈ xs := by rw [getElem!_pos xs k hkl]; exact List.getElem_mem hkl
        have hxok := (IV.ok_iff _).1 (HGd.out.1 _ hxm)
        have hsame := fun he hf => add_same HGd.out HA.out hkl he hf
        have hstay := fun he hf => add_stays HGd.out HA.out hkl he hf
        have hpass := fun he hd => add_pass HGd.out HA.out hkl he hd
        have hahead := fun (hd : d = false) hl => add_ahead (out := out) HGd.out (by rw [← hd]; exact HA.out) hkl hl
        have HL := Lib.hid (fun W => rlessI_any ⟨rk, rv⟩ (xs[k]!).t W)
        clear hxm
        generalize xs[k]! = x at *
        obtain ⟨⟨tk, tv⟩, y⟩ := x
        simp only at e0 e1 e2 hxok
        have hz := HB.out.size
        have hlu : w.heap.size < wr.heap.size := by have := HZ3.out; omega
        have hn1 : w.heap.size ≠ wr.heap.size := Nat.ne_of_lt hlu
        have hn2 : wr.heap.size ≠ w.heap.size := Ne.symm hn1
        have hyb : (y != 0) = true := by simpa using hxok.1
        have hy0 := hxok.1
        have hy1 := hxok.2.1
        have hy2 := hxok.2.2
        clear hxok
        by_cases he : (⟨tk, tv⟩ : RV) = ⟨rk, rv⟩
        · have hq : eqR ⟨tk, tv⟩ ⟨rk, rv⟩ = true := decide_eq_true he
          have hw1 : -9223372036854775808 ≤ y + n := by omega
          have hw2 : y + n ≤ 9223372036854775807 := by omega
          have HBn := Lib.hid (HB.out.alloc hz (.cells #[.int .i64 tk, .int .i64 tv, .int .i64 (y + n)] 57))
          have HOn := Lib.hid (HO.out.alloc (.cells #[.int .i64 tk, .int .i64 tv, .int .i64 (y + n)] 57))
          have HZn := Lib.hid HBn.out.size
          by_cases hbig2 : 2147483648 < y + n
          · have HR0 : Hid (res = xs) := HRes.out.trans (hstay he (decide_eq_false (by simp only; omega)))
            have HXs2 := Lib.hid (HXs.out _ HBn.out)
            clear hsame hstay hpass hahead HL HA HRes HO HB he HRow HXb HXs
            go_wp2
            go_returns
            rw [HR0.out]
            exact ⟨_, rfl, HXs2.out.mono (by omega), HW3.out.trans (HBn.out.mono HW3.out.size)⟩
          by_cases hsm2 : y + n < -2147483648
          · have HR0 : Hid (res = xs) := HRes.out.trans (hstay he (decide_eq_false (by simp only; omega)))
            have HXs2 := Lib.hid (HXs.out _ HBn.out)
            clear hsame hstay hpass hahead HL HA HRes HO HB he HRow HXb HXs
            go_wp2
            go_returns
            rw [HR0.out]
            exact ⟨_, rfl, HXs2.out.mono (by omega), HW3.out.trans (HBn.out.mono HW3.out.size)⟩
          have HA2 := Lib.hid (hsame he (decide_eq_true (by simp only; omega)))
          by_cases hz0 : y + n = 0
          · have hzb : (y + n != 0) = false := by simpa using hz0
            have HA3 : Hid (AddInv xs ⟨rk, rv⟩ n (k + 1) out true) := by have q := HA2.out; simp only at q; rw [if_pos hz0] at q; exact q
            clear hsame hstay hpass hahead HL HA HRes HO HB he HRow HXb HXs HA2 hz0
            go_wp2
            go_roundg (m - (k + 1))
            case measure => omega
            case rel => exact ⟨k + 1, out, true, by omega, by omega, by go_num, rfl, HA3.out, HOn.out, HBn.out⟩
          · have hzb : (y + n != 0) = true := by simpa using hz0
            have HA3 : Hid (AddInv xs ⟨rk, rv⟩ n (k + 1) (out ++ [⟨⟨tk, tv⟩, y + n⟩]) true) := by have q := HA2.out; simp only at q; rw [if_neg hz0] at q; exact q
            clear hsame hstay hpass hahead HL HA HRes HO HB he HRow HXb HXs HA2 hz0
            go_wp2_with (at_builtin; refine RowKind.Own.push (R := RI) (y := ⟨⟨tk, tv⟩, y + n⟩) HOn.out HBn.out HZn.out rfl _ _ rfl rfl _ (by show Value.slice (some ⟨wr.heap.size + 1, 0, none⟩) 1 1 = _; rw [World.size_alloc]) hlen (Nat.le_refl _) ?_; intro v5 w5 hO5 hB5 hz5)
            go_roundg (m - (k + 1))
            case measure => omega
            case rel => exact ⟨k + 1, out ++ [(⟨⟨tk, tv⟩, y + n⟩ : IV)], true, by omega, by omega, by go_num, rfl, HA3.out, hO5, hB5⟩
        · have hq : eqR ⟨tk, tv⟩ ⟨rk, rv⟩ = false := decide_eq_false he
          have HBn := Lib.hid (HB.out.alloc hz (.cells #[.int .i64 tk, .int .i64 tv, .int .i64 y] 57))
          have HOn := Lib.hid (HO.out.alloc (.cells #[.int .i64 tk, .int .i64 tv, .int .i64 y] 57))
          have HXn := Lib.hid (Boxed.new wr #[.int .i64 tk, .int .i64 tv, .int .i64 y] 57)
          have HNe := Lib.hid (HO.out.ne_late (Nat.le_refl wr.heap.size))
          have HZn := Lib.hid HBn.out.size
          cases d with
          | true =>
            have HA3 : Hid (AddInv xs ⟨rk, rv⟩ n (k + 1) (out ++ [⟨⟨tk, tv⟩, y⟩]) true) := hpass he (.inl rfl)
            clear hsame hstay hpass hahead HL HA HRes HO HB he HRow HXb HXs HXn HNe
            go_wp2_with (at_builtin; refine RowKind.Own.push (R := RI) (y := ⟨⟨tk, tv⟩, y⟩) HOn.out HBn.out HZn.out rfl _ _ rfl rfl _ (by show Value.slice (some ⟨wr.heap.size + 1, 0, none⟩) 1 1 = _; rw [World.size_alloc]) hlen (Nat.le_refl _) ?_; intro v5 w5 hO5 hB5 hz5)
            go_roundg (m - (k + 1))
            case measure => omega
            case rel => exact ⟨k + 1, out ++ [(⟨⟨tk, tv⟩, y⟩ : IV)], true, by omega, by omega, by go_num, rfl, HA3.out, hO5, hB5⟩
          | false =>
            have HL : Hid (∀ W, Calls Tryz.prog 92 #[.agg #[.int .i64 rk, .int .i64 rv], .agg #[.int .i64 tk, .int .i64 tv]] W (Ret (.bool (RV.lt ⟨rk, rv⟩ ⟨tk, tv⟩)) W)) := HL
            have hp2 : RV.lt ⟨rk, rv⟩ ⟨tk, tv⟩ = false → AddInv xs ⟨rk, rv⟩ n (k + 1) (out ++ [⟨⟨tk, tv⟩, y⟩]) false := fun h => hpass he (.inr h)
            have ha2 : RV.lt ⟨rk, rv⟩ ⟨tk, tv⟩ = true → AddInv xs ⟨rk, rv⟩ n (k + 1) ((out ++ [⟨⟨rk, rv⟩, n⟩]) ++ [⟨⟨tk, tv⟩, y⟩]) true := fun h => hahead rfl h
            clear hsame hstay hpass hahead HA HRes he HRow HXs
            generalize RV.lt ⟨rk, rv⟩ ⟨tk, tv⟩ = ql at *
            have HP2 := Lib.hid hp2; have HAh := Lib.hid ha2
            clear hp2 ha2
            go_wp2_with fail
            refine (HL.out _).mono ?_
            rintro e w6 ⟨rfl, hb⟩
            have HB6 := Lib.hid (HBn.out.trans (hb.mono HBn.out.size))
            have HO6 := Lib.hid (HOn.out.below hb)
            have HX6 := Lib.hid (HXn.out.below hb HXn.out.lt)
            obtain ⟨f0, f1, f2⟩ := HX6.out.three
            obtain ⟨g0, g1⟩ := HXb.out w6 HB6.out
            have hz6 := HB6.out.size
            clear hb HBn HOn HXn b0 b1 e0 e1 e2 HL HO HB
            cases ql with
            | false =>
              have HA3 := Lib.hid (HP2.out (by trivial))
              clear HP2 HAh HXb HNe HX6
              go_wp2_with (at_builtin; refine RowKind.Own.push (R := RI) (y := ⟨⟨tk, tv⟩, y⟩) HO6.out HB6.out hz6 rfl _ _ rfl rfl _ rfl hlen (Nat.le_refl _) ?_; intro v5 w5 hO5 hB5 hz5)
              go_roundg (m - (k + 1))
              case measure => omega
              case rel => exact ⟨k + 1, out ++ [(⟨⟨tk, tv⟩, y⟩ : IV)], false, by omega, by omega, by go_num, rfl, HA3.out, hO5, hB5⟩
            | true =>
              have HA3 := Lib.hid (HAh.out (by trivial))
              clear HP2 HAh HXb
              have hl7 : (out ++ [(⟨⟨rk, rv⟩, n⟩ : IV)]).length ≤ 900000 := by simp; omega
              go_wp2_with (first
                | (at_builtin; refine RowKind.Own.push (R := RI) (y := ⟨⟨tk, tv⟩, y⟩) hO7 hB7 hB7.size rfl _ _ rfl rfl _ rfl hl7 (Nat.le_refl _) ?_; intro v5 w5 hO5 hB5 hz5)
                | (at_builtin; refine RowKind.Own.pushN (R := RI) (y := ⟨⟨rk, rv⟩, n⟩) HO6.out HB6.out hz6 HX6.out HNe.out rfl _ _ rfl rfl _ rfl hlen ?_; intro v7 w7 hO7 hB7 hz7 hX7; obtain ⟨h0, h1, h2⟩ := hX7.three))
              go_roundg (m - (k + 1))
              case measure => omega
              case rel => exact ⟨k + 1, (out ++ [(⟨⟨rk, rv⟩, n⟩ : IV)]) ++ [(⟨⟨tk, tv⟩, y⟩ : IV)], true, by omega, by omega, by go_num, rfl, HA3.out, hO5, hB5⟩
      · have hlz : ¬ (k : Int) < (m : Int) := by omega
        have hkm2 : k = m := by omega
        subst hkm2
        have HE := Lib.hid (add_end HA.out (by rw [HN.out]; exact Nat.le_refl _))
        obtain ⟨b0, b1⟩ := HXb.out wr HB.out
        have hz := HB.out.size
        cases d with
        | true =>
          have HR0 : Hid (res = out) := by show _ = _; rw [HRes.out, HE.out]; rfl
          clear HE HRes HA HRow HXb HXs
          go_wp2
          go_returns
          rw [HR0.out]
          exact ⟨_, rfl, HO.out.mono (by have := HZ3.out; omega), HW3.out.trans (HB.out.mono HW3.out.size)⟩
        | false =>
          have HR0 : Hid (res = out ++ [⟨⟨rk, rv⟩, n⟩]) := by show _ = _; rw [HRes.out, HE.out]; rfl
          clear HE HRes HA HRow HXb HXs
          go_wp2_with (at_builtin; refine RowKind.Own.push (R := RI) (y := ⟨⟨rk, rv⟩, n⟩) HO.out HB.out hz rfl _ _ rfl rfl _ rfl hlen (Nat.le_refl _) ?_; intro v5 w5 hO5 hB5 hz5)
          go_returns
          rw [HR0.out]
          exact ⟨_, rfl, hO5.mono (by have := HZ3.out; omega), HW3.out.trans (hB5.mono HW3.out.size)⟩
end Go.Proofs.YthhceggcdaljdaaGreat
