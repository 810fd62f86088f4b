/- RouteSplits' walk -/
import Derived.Test.YtbjecaajeokdoaaKe
import Derived.Test.YtbjecaajeokdoaaKg
import Derived.Test.YtbjecaajeokdoaaBe
import Derived.Deep.CutRange
namespace Go.Proofs.Ytbjecaajeokdoaa
open Go.RowKit
set_option linter.unusedVariables false
set_option linter.unusedSimpArgs false
attribute [local go_sem ↓] run_imin
attribute [local go_sem ↓] neItem

theorem cutRowK {α : Type} [Inhabited α] {R : RowKind α} {w : World} {v : Value} {xs : List α} (ha : R.Is w v xs) (ca : capOk v) (b : Nat) (hb : 0 < b) :
    ∃ (p : Option Addr) (n c : Nat) (ys : List α), v = .slice p n c ∧ imin (n : Int) (b : Int) = (ys.length : Int) ∧ ys.length ≤ n ∧ ys.length ≤ c ∧ ys.length ≤ b ∧ R.Is w (.slice p ys.length c) ys := by
  obtain ⟨p1, c1, rfl⟩ := ha.slice
  have k1 := ca _ _ _ rfl
  obtain ⟨m1, e1, l1, h1, z1⟩ := cutTo b xs.length hb
  have hl : (xs.take m1).length = m1 := by rw [List.length_take]; omega
  refine ⟨p1, xs.length, c1, xs.take m1, rfl, by rw [hl]; exact e1, by omega, by omega, by omega, ?_⟩
  rw [hl]
  exact ha.cut m1 l1 z1
set_option maxRecDepth 100000 in
set_option maxHeartbeats 40000000 in
theorem routeSplits_walk (xs : List IV) (n : Int) (v : Value) (w : World) (h : RI.Is w v xs) (hc : capOk v) : Calls Try.prog 4 #[v, .int .i64 n] w (Ret (.bool true) w) := by
  obtain ⟨p, n0, c, ys, rfl, ea, j1, j2, j3, HY⟩ := cutRowK h hc 100 (by decide)
  have ea : imin (n0 : Int) 100 = (ys.length : Int) := ea
  have HAW := Lib.hid (fun W => wawake_any W)
  have HY := Lib.hid HY
  have j1z : ¬ (n0 : Int) < (ys.length : Int) := by omega
  clear h hc
  by_cases hn : 1 ≤ n ∧ n ≤ 64
  · obtain ⟨N, rfl⟩ : ∃ N : Nat, n = (N : Int) := ⟨n.toNat, by omega⟩
    obtain ⟨hn1, hn2⟩ := hn
    have hN1 : 1 ≤ N := by omega
    have hN64 : N ≤ 64 := by omega
    have HSp := Lib.hid (fun W (hW : RI.Is W (.slice p ys.length c) ys) => split_any N ys _ W ⟨hN1, hN64⟩ (by omega) hW)
    have HWk := Lib.hid (fun k W => worker_any k N W)
    have HRt := Lib.hid (fun W (hW : RI.Is W (.slice p ys.length c) ys) => bright_any ys _ W (by omega) hW)
    go_enter Try.func4, Try.ntmps4
    go_wp2_with fail
    refine (HAW.out _).mono ?_
    rintro e w1 ⟨rfl, hb⟩
    have HB1 := Lib.hid hb
    have HY1 := Lib.hid (HY.out.below hb)
    clear hb HAW HY
    go_wp2_with fail
    refine (HSp.out _ HY1.out).mono ?_
    rintro e w2 ⟨blk, svs, rfl, hO, hb⟩
    rw [parts_len]
    have HO2 := Lib.hid hO
    have HY2 := Lib.hid (HY1.out.below hb)
    have HB2 : Hid (Below w.heap.size w w2) := bcall HB1.out hb HB1.out.size
    clear hO hb HY1 HB1 HSp
    go_wp2_with fail
    go_loopg [6, 7] N (fun gg al wv wr => ∃ m : Nat, m ≤ N ∧ N - m ≤ gg ∧ wv = .int .i64 (m : Int) ∧ Hid (RI.Is wr al (allP N ys m)) ∧ Hid (capOk al) ∧ Hid (Below w2.heap.size w2 wr))
    case atStart => exact ⟨0, Nat.zero_le _, by omega, rfl, RowKind.Is.nil _, fun p n c e => by cases e; exact Nat.le_refl _, Below.refl _ _⟩
    case round =>
      obtain ⟨m, hm, hg, rfl, HA, HC, HB⟩ := hrel
      rename World => wo
      by_cases hlt : m < N
      · have hmz : (m : Int) < (N : Int) := by omega
        have hms : m < svs.length := by rw [HO2.out.len, parts_len]; exact hlt
        have HLm : Hid (∀ W, Below w2.heap.size w2 W → W.cell? ⟨blk, m, none⟩ = some svs[m]!.val ∧ RI.Is W svs[m]!.val (partI N ys m)) := fun W hW => by
          have q := HO2.out.below hW
          have o := (q.own m hms).is
          rw [parts_get _ hlt] at o
          exact ⟨q.cell m hms, o⟩
        have HcM := Lib.hid (ownCapI (HO2.out.own m hms))
        have hnm := HO2.out.get m hms
        rw [parts_get _ hlt] at hnm
        generalize hsv : svs[m]! = s at *
        obtain ⟨pm, nm, cm⟩ := s
        simp only at hnm
        subst hnm
        clear hsv
        have HPl : Hid (∀ W u v, capOk u → capOk v → RI.Is W u (allP N ys m) → RI.Is W v (partI N ys m) → Calls Try.prog 10 #[u, v] W (AnsI (allP N ys (m + 1)) W)) := fun W u v c1 c2 i1 i2 => bplus_any _ _ u v W (by have := allP_len N ys m; have : m * ys.length ≤ 64 * 100 := Nat.mul_le_mul (by omega) j3; omega) (by have := part_le N ys m; omega) c1 c2 i1 i2
        have HRp := Lib.hid (fun W (hW : RI.Is W (.slice pm (List.length (partI N ys m)) cm) (partI N ys m)) => bright_any (partI N ys m) _ W (by have := part_le N ys m; omega) hW)
        have HYb := Lib.hid (fun W (hW : Below w2.heap.size w2 W) => HY2.out.below hW)
        have HSt := Lib.hid (fun i (hi : i < ys.length) => part_split (n := N) hi m)
        have HSk := Lib.hid (fun i (hi : i < ys.length) => part_skip (n := N) hi m)
        have HNx := Lib.hid (fun i (hi : i < ys.length) => part_next (n := N) hi m)
        have HRo := Lib.hid (part_good (n := N) (xs := ys) m)
        have h0 := (HLm.out _ HB.out).1
        have HPm : Hid ((partI N ys m).length ≤ 100) := by have := part_le N ys m; show _ ≤ _; omega
        go_wp2_with fail
        clear h0
        go_loopg [8, 9] ys.length (fun g2 kv iv wx => ∃ i : Nat, i ≤ ys.length ∧ ys.length - i ≤ g2 ∧ kv = .int .i64 ((partI N (ys.take i) m).length : Int) ∧ iv = .int .i64 (i : Int) ∧ Hid (Below wo.heap.size wo wx))
        case atStart => exact ⟨0, Nat.zero_le _, by omega, by rw [List.take_zero]; rfl, rfl, Below.refl _ _⟩
        case round =>
          obtain ⟨i, hi, hg2, rfl, rfl, HBr⟩ := hrel
          rename World => wx
          have HB9 : Hid (Below w2.heap.size w2 wx) := bcall HB.out HBr.out HB.out.size
          by_cases hil : i < ys.length
          · have hiz : (i : Int) < (ys.length : Int) := by omega
            obtain ⟨p1, c1, e1, hop⟩ := isOpened (HYb.out wx HB9.out)
            simp only [Value.slice.injEq] at e1
            obtain ⟨rfl, _, rfl⟩ := e1
            obtain ⟨b, off, rfl, hbl, hrow⟩ := hop i hil
            have hyc := fun q => atI (hrow.below (below_drewN (Below.refl wx.heap.size wx) q) hbl) i hil
            have hyw := (atI hrow i hil).1
            have hst := HSt.out i hil
            have hsk := HSk.out i hil
            have hnx := HNx.out i hil
            generalize hxx : ys[i]! = x at *
            obtain ⟨⟨xk, xv⟩, xn⟩ := x
            simp only at hyc hyw hst hsk hnx
            have e0 := fun q => (hyc q).1
            have e1 := fun q => (hyc q).2.1
            have e2 := fun q => (hyc q).2.2
            have HWx := Lib.hid (HWk.out xk wx)
            clear hyc hop hrow hxx
            by_cases hw : workerW xk N = (m : Int)
            · obtain ⟨hk1, hk2⟩ := hst hw
              have HN2 := Lib.hid (hnx hw)
              rw [hw] at HWx
              obtain ⟨q1, d1, e9, hop⟩ := isOpened (HLm.out wx HB9.out).2
              simp only [SVI.val, Value.slice.injEq] at e9
              obtain ⟨rfl, _, rfl⟩ := e9
              obtain ⟨gb, go, rfl, hgl, hgr⟩ := hop _ hk1
              have hgc := fun q => atI (hgr.below (below_drewN (Below.refl wx.heap.size wx) q) hgl) _ hk1
              rw [hk2] at hgc
              simp only at hgc
              have f0 := fun q => (hgc q).1
              have f1 := fun q => (hgc q).2.1
              have f2 := fun q => (hgc q).2.2
              have fl : ∀ q, (wx.drewN q).cell? ⟨blk, m, none⟩ = some (.slice (some ⟨gb, go, none⟩) (List.length (partI N ys m)) cm) := fun q => (HLm.out (wx.drewN q) (below_drewN HB9.out q)).1
              have hq : eqI ⟨⟨xk, xv⟩, xn⟩ ⟨⟨xk, xv⟩, xn⟩ = true := decide_eq_true rfl
              have hk1z : ((partI N (ys.take i) m).length : Int) < ((partI N ys m).length : Int) := by omega
              clear hgc hop hgr hst hsk hnx hw hk2
              generalize (partI N (ys.take i) m).length = kk at *
              have hkk : kk ≤ 100 := by have := HPm.out; omega
              clear HPl HRp HSt HSk HNx HRo HPm HLm HcM
              generalize (partI N ys m).length = L at *
              have hd : decide (L ≤ kk) = false := decide_eq_false (by omega)
              have hkL : kk < L := by omega
              go_upto_region 18 with (refine (HWx.out).mono ?_; rintro e wq ⟨rfl, rfl⟩)
              go_quiet (fail)
              go_wp2
              go_roundg (ys.length - (i + 1))
              case measure => omega
              case rel => exact ⟨i + 1, by omega, by omega, by rw [HN2.out]; go_num, by go_num, below_drewN HBr.out _⟩
            · have HN2 := Lib.hid (hsk hw)
              have hwb : (workerW xk N == (m : Int)) = false := by simpa using hw
              clear hst hsk hnx
              generalize workerW xk N = wk at *
              go_wp2_with fail
              refine (HWx.out).mono ?_
              rintro e wq ⟨rfl, rfl⟩
              go_wp2
              go_roundg (ys.length - (i + 1))
              case measure => omega
              case rel => exact ⟨i + 1, by omega, by omega, by rw [HN2.out], by go_num, HBr.out⟩
          · obtain rfl : i = ys.length := by omega
            have hl9 : (wx.cell? ⟨blk, m, none⟩ : _) = some (.slice pm (List.length (partI N ys m)) cm) := (HLm.out _ HB9.out).1
            rw [List.take_length]
            clear HSt HSk HNx
            cases hr : rightI ys
            · rw [hr] at HRt
              go_wp2_with fail
              refine (HRt.out _ (HYb.out _ HB9.out)).mono ?_
              rintro e w4 ⟨rfl, hb4⟩
              have HBr4 : Hid (Below wo.heap.size wo w4) := bcall HBr.out hb4 HBr.out.size
              have HB4 : Hid (Below w2.heap.size w2 w4) := bcall HB9.out hb4 HB9.out.size
              clear hb4 hl9 HBr HB9
              have HBr := HBr4
              have HB9 := HB4
              clear HBr4 HB4
              have hl9 : (w4.cell? ⟨blk, m, none⟩ : _) = some (.slice pm (List.length (partI N ys m)) cm) := (HLm.out _ HB9.out).1
              go_wp2_with fail
              refine (HPl.out _ u6 (.slice pm (List.length (partI N ys m)) cm) HC.out HcM.out (HA.out.below HBr.out) (HLm.out _ HB9.out).2).mono ?_
              rintro e w5 ⟨v5, rfl, hI5, hC5, hb5⟩
              have HI5 := Lib.hid hI5
              have HC5 := Lib.hid hC5
              have HB5 : Hid (Below w2.heap.size w2 w5) := bcall HB9.out hb5 HB9.out.size
              clear hI5 hC5 hb5
              go_wp2
              go_roundg (N - (m + 1))
              case measure => omega
              case rel => exact ⟨m + 1, by omega, by omega, by go_num, HI5.out, HC5.out, HB5.out⟩
            · rw [hr] at HRt
              rw [HRo.out hr] at HRp
              go_wp2_with fail
              refine (HRt.out _ (HYb.out _ HB9.out)).mono ?_
              rintro e w4 ⟨rfl, hb4⟩
              have HBr4 : Hid (Below wo.heap.size wo w4) := bcall HBr.out hb4 HBr.out.size
              have HB4 : Hid (Below w2.heap.size w2 w4) := bcall HB9.out hb4 HB9.out.size
              clear hb4 hl9 HBr HB9
              have HBr := HBr4
              have HB9 := HB4
              clear HBr4 HB4
              have hl9 : (w4.cell? ⟨blk, m, none⟩ : _) = some (.slice pm (List.length (partI N ys m)) cm) := (HLm.out _ HB9.out).1
              go_wp2_with fail
              refine (HRp.out _ (HLm.out _ HB9.out).2).mono ?_
              rintro e w6 ⟨rfl, hb4⟩
              have HBr4 : Hid (Below wo.heap.size wo w6) := bcall HBr.out hb4 HBr.out.size
              have HB4 : Hid (Below w2.heap.size w2 w6) := bcall HB9.out hb4 HB9.out.size
              clear hb4 hl9 HBr HB9
              have HBr := HBr4
              have HB9 := HB4
              clear HBr4 HB4
              have hl9 : (w6.cell? ⟨blk, m, none⟩ : _) = some (.slice pm (List.length (partI N ys m)) cm) := (HLm.out _ HB9.out).1
              go_wp2_with fail
              refine (HPl.out _ u6 (.slice pm (List.length (partI N ys m)) cm) HC.out HcM.out (HA.out.below HBr.out) (HLm.out _ HB9.out).2).mono ?_
              rintro e w5 ⟨v5, rfl, hI5, hC5, hb5⟩
              have HI5 := Lib.hid hI5
              have HC5 := Lib.hid hC5
              have HB5 : Hid (Below w2.heap.size w2 w5) := bcall HB9.out hb5 HB9.out.size
              clear hI5 hC5 hb5
              go_wp2
              go_roundg (N - (m + 1))
              case measure => omega
              case rel => exact ⟨m + 1, by omega, by omega, by go_num, HI5.out, HC5.out, HB5.out⟩
      · obtain rfl : m = N := by omega
        have HYe := Lib.hid (HY2.out.below HB.out)
        have HBe : Hid (Below w.heap.size w wo) := bcall HB2.out HB.out HB2.out.size
        cases hr : rightI ys
        · rw [hr] at HRt
          go_wp2_with fail
          refine (HRt.out _ HYe.out).mono ?_
          rintro e w4 ⟨rfl, hb4⟩
          have HBf : Hid (Below w.heap.size w w4) := bcall HBe.out hb4 HBe.out.size
          clear hb4
          go_wp2
          go_returns
          exact ⟨rfl, HBf.out⟩
        · rw [hr] at HRt
          rw [allP_all (by omega) hr] at HA
          have HSm : Hid (∀ W u v, RI.Is W u ys → RI.Is W v ys → Calls Try.prog 11 #[u, v] W (Ret (.bool true) W)) := fun W u v hu hv => by
            have h := bsame_any ys ys u v W (by omega) (by omega) hu hv
            simpa using h
          go_wp2_with fail
          refine (HRt.out _ HYe.out).mono ?_
          rintro e w4 ⟨rfl, hb4⟩
          have HBf : Hid (Below w.heap.size w w4) := bcall HBe.out hb4 HBe.out.size
          have HA4 := Lib.hid (HA.out.below hb4)
          have HY4 := Lib.hid (HYe.out.below hb4)
          clear hb4
          go_wp2_with fail
          refine (HSm.out _ _ _ HA4.out HY4.out).mono ?_
          rintro e w5 ⟨rfl, hb5⟩
          have HBg : Hid (Below w.heap.size w w5) := bcall HBf.out hb5 HBf.out.size
          clear hb5
          go_wp2
          go_returns
          exact ⟨rfl, HBg.out⟩
  · have HSp := Lib.hid (fun W => split_no n (.slice p ys.length c) W hn)
    have HRs := Lib.hid HSp.out
    go_enter Try.func4, Try.ntmps4
    go_wp2_with fail
    refine (HAW.out _).mono ?_
    rintro e w1 ⟨rfl, hb⟩
    have HB1 := Lib.hid hb
    clear hb HAW HY
    go_wp2_with fail
    refine (HSp.out _).mono ?_
    rintro e w2 ⟨rfl, rfl⟩
    by_cases h1 : n < 1
    · go_wp2
      go_returns
      exact ⟨rfl, HB1.out⟩
    · have h2 : 64 < n := by omega
      go_wp2
      go_returns
      exact ⟨rfl, HB1.out⟩
end Go.Proofs.Ytbjecaajeokdoaa
