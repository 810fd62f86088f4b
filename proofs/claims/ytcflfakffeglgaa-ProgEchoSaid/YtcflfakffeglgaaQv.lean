/- the program's own run -/
import Derived.Test.YtcflfakffeglgaaQu
namespace Go.Proofs.Ytcflfakffeglgaa
open Go.RowKit
set_option linter.unusedVariables false
set_option linter.unusedSimpArgs false

set_option maxRecDepth 100000 in
set_option maxHeartbeats 8000000 in
theorem prun_any {B bm : Nat} {rk rv : Int} {w : World} {sv ov : Value} (p : List NV) (b off cap : Nat) (h : Mach B bm rk rv w 0 sv ov [] []) (hl : p.length ≤ 64) (hb : b < B) (hr : RC.Row w b off p) (hall : ∀ j, j < p.length → NV.ok p.length p[j]!) (hpn : ∀ j, j < p.length → inR p[j]!.n) (hrk : inR rk) (hrv : inR rv) :
    Calls Try.prog 15 #[.pointer (some ⟨bm, 0, none⟩), .slice (some ⟨b, off, none⟩) p.length cap] w (fun e w' => e = .returned (.int .i64 (runP p ⟨rk, rv⟩ 256 [] [] 0).2) ∧ Below B w w' ∧ ((runP p ⟨rk, rv⟩ 256 [] [] 0).2 = 0 → ∃ pc sv' ov' S, Mach B bm rk rv w' pc sv' ov' S (runP p ⟨rk, rv⟩ 256 [] [] 0).1)) := by
  have hrow : Hid (∀ (W : World), Below B w W → ∀ j, j < p.length → _) := fun W hW j hj => atC7 (hr.below hW hb) j hj
  have hres : Hid (∀ res, runP p ⟨rk, rv⟩ 256 [] [] 0 = res → runP p ⟨rk, rv⟩ 256 [] [] 0 = res) := fun _ h => h
  generalize hR : runP p ⟨rk, rv⟩ 256 [] [] 0 = res at *
  have HR := Lib.hid hR; have HAll := Lib.hid hall; have HPn := Lib.hid hpn; have H := Lib.hid h
  have hn : ∃ n, p.length = n ∧ n ≤ 64 := ⟨_, rfl, hl⟩
  obtain ⟨n, hn, hn64⟩ := hn
  have HN := Lib.hid hn
  clear hr hall hpn hR hl h hres
  rw [hn] at hrow HAll HPn ⊢
  clear hn
  obtain ⟨rp, re⟩ := res
  show Calls _ _ _ _ (fun e w' => e = .returned (.int .i64 re) ∧ Below B w w' ∧ (re = 0 → ∃ pc sv' ov' S, Mach B bm rk rv w' pc sv' ov' S rp))
  go_enter Try.func15, Try.ntmps15
  go_wp2
  go_loopg [5] 300 (fun gg f wr => ∃ (j k : Nat) (sv ov : Value) (S : List Int) (O : List RV), f = .int .i64 (j : Int) ∧ j ≤ 256 ∧ j ≤ gg ∧ k ≤ n ∧ Hid (Below B w wr) ∧ Hid (Mach B bm rk rv wr (k : Int) sv ov S O) ∧ Hid (S.length ≤ 8) ∧ Hid (∀ x ∈ S, inR x) ∧ Hid (O.length ≤ 8) ∧ Hid (runP p ⟨rk, rv⟩ j S O k = (rp, re)))
  case atStart => exact ⟨256, 0, _, _, [], [], rfl, by omega, by omega, by omega, Below.refl _ _, H.out, by show (0 : Nat) ≤ 8; omega, (fun x hx => by simp at hx), by show (0 : Nat) ≤ 8; omega, HR.out⟩
  case round =>
    obtain ⟨j, k, sv, ov, S, O, rfl, hj, hg, hkn, HB, HM, HS8, HSr, HO8, HC⟩ := hrel
    have c2 : wr.cell? ⟨bm, 2, none⟩ = some (.int .i64 (k : Int)) := rowOf_cell HM.out.row 2
    by_cases hlt : k < n
    · have hlz : (k : Int) < (n : Int) := by omega
      cases j with
      | zero =>
        have hq := HC.out
        rw [runP_fuel (by rw [HN.out]; exact hlt)] at hq
        have hq2 : re = 4 := (Prod.mk.inj hq).2.symm
        subst hq2
        clear HC hrow HAll HPn hq
        go_wp2
        go_returns
        exact ⟨rfl, HB.out, fun e => absurd (show (4 : Int) = 0 from e) (by decide)⟩
      | succ i =>
        have hc := hrow.out wr HB.out k hlt
        have hok := HAll.out k hlt
        have hnn := HPn.out k hlt
        have hbad := fun (h : (stepP ⟨rk, rv⟩ p[k]! S O (k + 1)).1 ≠ 0) => runP_bad (f := i) (p := p) (r := ⟨rk, rv⟩) (s := S) (out := O) (e := (stepP ⟨rk, rv⟩ p[k]! S O (k + 1)).1) (s' := (stepP ⟨rk, rv⟩ p[k]! S O (k + 1)).2.1) (out' := (stepP ⟨rk, rv⟩ p[k]! S O (k + 1)).2.2.1) (pc' := (stepP ⟨rk, rv⟩ p[k]! S O (k + 1)).2.2.2) (pc := k) (by rw [HN.out]; exact hlt) rfl h
        have hgo := fun (h : (stepP ⟨rk, rv⟩ p[k]! S O (k + 1)).1 = 0) => runP_go (f := i) (p := p) (r := ⟨rk, rv⟩) (s := S) (out := O) (s' := (stepP ⟨rk, rv⟩ p[k]! S O (k + 1)).2.1) (out' := (stepP ⟨rk, rv⟩ p[k]! S O (k + 1)).2.2.1) (pc' := (stepP ⟨rk, rv⟩ p[k]! S O (k + 1)).2.2.2) (pc := k) (by rw [HN.out]; exact hlt) (by rw [← h])
        generalize p[k]! = x at *
        obtain ⟨op, nn⟩ := x
        have hst := fun h0 => stepP_ok (rk := rk) (rv := rv) hok hnn hrk hrv HS8.out HSr.out HO8.out hlt h0
        have HP := Lib.hid (pstep_any HM.out op nn hok (by omega) hnn HS8.out HSr.out HO8.out)
        obtain ⟨f0, f1⟩ := hc
        simp only at f0 f1
        unfold StepR at HP
        have HC2 := HC.out
        generalize stepP ⟨rk, rv⟩ ⟨op, nn⟩ S O (k + 1) = st at *
        obtain ⟨e0, S', O', k'⟩ := st
        simp only at hbad hgo hst HP
        have HBad := Lib.hid (fun h => (hbad h).symm.trans HC2); have HGo := Lib.hid (fun h => (hgo h).symm.trans HC2); have HSt := Lib.hid hst
        clear hbad hgo hst HC HC2 hok hnn HS8 HSr HO8 HM
        have hji : (((i + 1 : Nat) : Int) == 0) = false := by simp; omega
        go_wp2_with fail
        refine (HP.out).mono ?_
        rintro e w4 ⟨rfl, hb4, hM4⟩
        have HM4 := Lib.hid hM4; have HB4 := Lib.hid (HB.out.trans hb4)
        clear hM4 hb4 HP HB f0 f1 c2
        by_cases he : e0 = 0
        · subst he
          obtain ⟨q1, q2, q3, q4⟩ := HSt.out rfl
          obtain ⟨sv', ov', hM⟩ := HM4.out rfl
          have HMn := Lib.hid hM; have HCn := Lib.hid (HGo.out rfl); have Hq1 := Lib.hid q1; have Hq2 := Lib.hid q2; have Hq3 := Lib.hid q3
          clear hM HM4 HGo HBad HSt q1 q2 q3
          go_wp2
          go_roundg i
          case measure => omega
          case rel => exact ⟨i, k', _, _, _, _, by first | rfl | go_num, by omega, by omega, by omega, HB4.out, HMn.out, Hq1.out, Hq2.out, Hq3.out, HCn.out⟩
        · have heb : (e0 == 0) = false := by simpa using he
          have hen : (e0 != 0) = true := by simpa using he
          have hq := HBad.out he
          have hq2 : re = e0 := (Prod.mk.inj hq).2.symm
          subst hq2
          have HE := Lib.hid he
          clear HBad HGo HSt HM4 he hq
          go_wp2
          go_returns
          exact ⟨rfl, HB4.out, fun e => absurd e HE.out⟩
    · have hlz : ¬ (k : Int) < (n : Int) := by omega
      have hq := HC.out
      rw [runP_end (by rw [HN.out]; omega)] at hq
      obtain ⟨q1, q2⟩ := Prod.mk.inj hq
      subst q1
      subst q2
      clear hrow HAll HPn HC hq
      go_wp2
      go_returns
      first | exact ⟨rfl, HB.out, fun _ => ⟨_, _, _, _, HM.out⟩⟩ | exact ⟨rfl, HB.out, ⟨_, _, _, _, HM.out⟩⟩
set_option maxRecDepth 100000 in
set_option maxHeartbeats 4000000 in
theorem prun_nil {B bm : Nat} {rk rv : Int} {w : World} {sv ov : Value} (h : Mach B bm rk rv w 0 sv ov [] []) (q : Option Addr) (cap : Nat) :
    Calls Try.prog 15 #[.pointer (some ⟨bm, 0, none⟩), .slice q 0 cap] w (fun e w' => e = .returned (.int .i64 0) ∧ Below B w w' ∧ ∃ pc sv' ov' S, Mach B bm rk rv w' pc sv' ov' S []) := by
  have c2 : w.cell? ⟨bm, 2, none⟩ = some (.int .i64 0) := rowOf_cell h.row 2
  have H := Lib.hid h
  clear h
  go_enter Try.func15, Try.ntmps15
  go_wp2_with fail
  refine wp_loop_rounds 1 ?_
  rw [rounds_succ]
  go_wp2
  go_returns
  exact ⟨rfl, Below.refl _ _, _, _, _, _, H.out⟩
end Go.Proofs.Ytcflfakffeglgaa
