/- plain facts of a step, and the program's own step, whatever the instruction -/
import Derived.Test.YthhceggcdaljdaaGreatK06
import Derived.Test.YthhceggcdaljdaaGreatK07
import Derived.Test.YthhceggcdaljdaaGreatK01
import Derived.Test.YthhceggcdaljdaaGreatG03
import Derived.Test.YthhceggcdaljdaaGreatG05
import Derived.Deep.Cut
import Derived.Test.YthhceggcdaljdaaGreatK02
import Derived.Test.YthhceggcdaljdaaGreatG29
import Derived.Deep.RegionHeldLaw
namespace Go.Proofs.YthhceggcdaljdaaGreat
open Go.RowKit
set_option linter.unusedVariables false
set_option linter.unusedSimpArgs false

theorem runP_err (p : List NV) (r : RV) : ∀ (f : Nat) (s : List Int) (out : List RV) (pc : Nat), (runP p r f s out pc).2 ≠ 0 → runP p r f s out pc = errL r (runP p r f s out pc).2
  | 0, s, out, pc, h => by
    unfold runP at *
    split at h
    · exact absurd rfl h
    · rename_i q; rw [if_neg q]; rfl
  | f + 1, s, out, pc, h => by
    unfold runP at *
    split at h
    · exact absurd rfl h
    · rename_i q
      rw [if_neg q]
      split at h
      · rename_i q2; rw [if_pos q2]; rfl
      · rename_i q2; rw [if_neg q2]; exact runP_err p r f _ _ _ h
theorem ofN_ok2 (op : Int) {a b : Int} (ha : inR a) (hb : inR b) : inR (ofN op a b).1 := by
  have hr : ∀ x, inR (roomN x).1 := fun x => by
    by_cases h : inR x
    · rw [roomN_in h]; exact h
    · rw [roomN_out h]; decide
  have hz : inR 0 := by decide
  unfold ofN
  split
  · exact hr _
  split
  · exact hr _
  split
  · exact hr _
  split
  · split
    · exact hz
    · exact hr _
  split
  · split
    · exact hz
    · rename_i h; exact tmod_in ha h
  split
  · split <;> decide
  split
  · split <;> decide
  exact hz
/-- a step that goes on leaves all in its bounds -/
theorem stepP_ok {rk rv op nn : Int} {n k : Nat} {S : List Int} {O : List RV} (hok : NV.ok n ⟨op, nn⟩) (hnn : inR nn) (hrk : inR rk) (hrv : inR rv) (hS8 : S.length ≤ 8) (hSr : ∀ x ∈ S, inR x) (hO8 : O.length ≤ 8) (hk : k < n) (h0 : (stepP ⟨rk, rv⟩ ⟨op, nn⟩ S O (k + 1)).1 = 0) :
    (stepP ⟨rk, rv⟩ ⟨op, nn⟩ S O (k + 1)).2.1.length ≤ 8 ∧ (∀ x ∈ (stepP ⟨rk, rv⟩ ⟨op, nn⟩ S O (k + 1)).2.1, inR x) ∧ (stepP ⟨rk, rv⟩ ⟨op, nn⟩ S O (k + 1)).2.2.1.length ≤ 8 ∧ (stepP ⟨rk, rv⟩ ⟨op, nn⟩ S O (k + 1)).2.2.2 ≤ n := by
  obtain ⟨o1, o2, o3, o4⟩ := hok
  simp only at o1 o2 o3 o4
  unfold stepP at *
  simp only at h0 ⊢
  by_cases hb : S.length < takesN op ∨ 8 < S.length - takesN op + givesN op
  · rw [if_pos hb] at h0
    exact absurd (show (1 : Int) = 0 from h0) (by decide)
  rw [if_neg hb] at h0 ⊢
  have ht : ∀ m, ∀ x ∈ S.take m, inR x := fun m x hx => hSr x (List.mem_of_mem_take hx)
  have hl : (S.take (S.length - takesN op)).length = S.length - takesN op := by rw [List.length_take]; omega
  have hg : S.length - takesN op + givesN op ≤ 8 := by omega
  have happ : ∀ (L : List Int), L.length ≤ givesN op → (∀ x ∈ L, inR x) → (S.take (S.length - takesN op) ++ L).length ≤ 8 ∧ ∀ x ∈ S.take (S.length - takesN op) ++ L, inR x := fun L h1 h2 =>
    ⟨by rw [List.length_append, hl]; omega, fun x hx => (List.mem_append.1 hx).elim (ht _ x) (h2 x)⟩
  have hz : inR 0 := by decide
  have hget : ∀ j, j < S.length → inR S[j]! := fun j hj => hSr _ (by rw [getElem!_pos S j hj]; exact List.getElem_mem hj)
  have ha : inR (if takesN op = 0 then 0 else S[S.length - takesN op]!) := by
    split
    · exact hz
    · exact hget _ (by omega)
  have hb2 : inR (if takesN op = 2 then S[S.length - takesN op + 1]! else 0) := by
    split
    · exact hget _ (by omega)
    · exact hz
  generalize (if takesN op = 0 then 0 else S[S.length - takesN op]!) = a at *
  generalize (if takesN op = 2 then S[S.length - takesN op + 1]! else 0) = b at *
  have hlen : (S.take (S.length - takesN op)).length ≤ 8 := by omega
  by_cases g1 : op = 1
  · rw [if_pos g1] at h0 ⊢
    obtain ⟨q1, q2⟩ := happ [nn] (by subst g1; show 1 ≤ givesN 1; decide) (fun x hx => by simp at hx; subst hx; exact hnn)
    exact ⟨q1, q2, hO8, hk⟩
  rw [if_neg g1] at h0 ⊢
  by_cases g2 : op = 2
  · rw [if_pos g2] at h0 ⊢
    obtain ⟨q1, q2⟩ := happ [rk] (by subst g2; show 1 ≤ givesN 2; decide) (fun x hx => by simp at hx; subst hx; exact hrk)
    exact ⟨q1, q2, hO8, hk⟩
  rw [if_neg g2] at h0 ⊢
  by_cases g3 : op = 3
  · rw [if_pos g3] at h0 ⊢
    obtain ⟨q1, q2⟩ := happ [rv] (by subst g3; show 1 ≤ givesN 3; decide) (fun x hx => by simp at hx; subst hx; exact hrv)
    exact ⟨q1, q2, hO8, hk⟩
  rw [if_neg g3] at h0 ⊢
  by_cases g11 : op = 11
  · rw [if_pos g11] at h0 ⊢
    obtain ⟨q1, q2⟩ := happ [a, a] (by subst g11; show 2 ≤ givesN 11; decide) (fun x hx => by simp at hx; subst hx; exact ha)
    exact ⟨q1, q2, hO8, hk⟩
  rw [if_neg g11] at h0 ⊢
  by_cases g12 : op = 12
  · rw [if_pos g12] at h0 ⊢
    obtain ⟨q1, q2⟩ := happ [b, a] (by subst g12; show 2 ≤ givesN 12; decide) (fun x hx => by simp at hx; rcases hx with rfl | rfl; exact hb2; exact ha)
    exact ⟨q1, q2, hO8, hk⟩
  rw [if_neg g12] at h0 ⊢
  by_cases g13 : op = 13
  · rw [if_pos g13] at h0 ⊢
    exact ⟨hlen, ht _, hO8, hk⟩
  rw [if_neg g13] at h0 ⊢
  by_cases g14 : op = 14
  · rw [if_pos g14] at h0 ⊢
    obtain ⟨n0, n1⟩ := o3 (.inl g14)
    exact ⟨hlen, ht _, hO8, by show nn.toNat ≤ n; omega⟩
  rw [if_neg g14] at h0 ⊢
  by_cases g15 : op = 15
  · rw [if_pos g15] at h0 ⊢
    obtain ⟨n0, n1⟩ := o3 (.inr g15)
    refine ⟨hlen, ht _, hO8, ?_⟩
    show (if a = 0 then nn.toNat else k + 1) ≤ n
    split <;> omega
  rw [if_neg g15] at h0 ⊢
  by_cases g16 : op = 16
  · rw [if_pos g16] at h0 ⊢
    refine ⟨hlen, ht _, ?_, hk⟩
    have h0 : (if O.length = 8 then (5 : Int) else 0) = 0 := h0
    show (O ++ [(⟨a, b⟩ : RV)]).length ≤ 8
    rw [List.length_append]
    by_cases h8 : O.length = 8
    · rw [if_pos h8] at h0; omega
    · simp; omega
  rw [if_neg g16] at h0 ⊢
  obtain ⟨q1, q2⟩ := happ [(ofN op a b).1] (by
    have : givesN op = 1 := by unfold givesN; rw [if_pos (by omega)]
    rw [this]; simp) (fun x hx => by simp at hx; subst hx; exact ofN_ok2 op ha hb2)
  exact ⟨q1, q2, hO8, hk⟩
theorem pstep_any {B bm : Nat} {rk rv : Int} {w : World} {k n : Nat} {sv ov : Value} {S : List Int} {O : List RV} (h : Mach B bm rk rv w (k : Int) sv ov S O) (op nn : Int) (hok : NV.ok n ⟨op, nn⟩) (hk : k ≤ 1000) (hnn : inR nn) (hS8 : S.length ≤ 8) (hSr : ∀ x ∈ S, inR x) (hO8 : O.length ≤ 8) :
    Calls Tryz.prog 266 #[.pointer (some ⟨bm, 0, none⟩), .agg #[.int .i64 op, .int .i64 nn]] w (StepR B bm rk rv w (stepP ⟨rk, rv⟩ ⟨op, nn⟩ S O (k + 1))) := by
  obtain ⟨o1, o2, o3, o4⟩ := hok
  simp only at o1 o2 o3 o4
  rcases (by omega : op = 1 ∨ op = 2 ∨ op = 3 ∨ op = 4 ∨ op = 5 ∨ op = 6 ∨ op = 7 ∨ op = 8 ∨ op = 9 ∨ op = 10 ∨ op = 11 ∨ op = 12 ∨ op = 13 ∨ op = 14 ∨ op = 15 ∨ op = 16) with rfl | rfl | rfl | rfl | rfl | rfl | rfl | rfl | rfl | rfl | rfl | rfl | rfl | rfl | rfl | rfl
  · exact pstep1 h nn hk hnn hS8 hSr hO8
  · exact pstep2 h nn hk hnn hS8 hSr hO8
  · exact pstep3 h nn hk hnn hS8 hSr hO8
  · exact pstep4 h nn hk hnn hS8 hSr hO8
  · exact pstep5 h nn hk hnn hS8 hSr hO8
  · exact pstep6 h nn hk hnn hS8 hSr hO8
  · exact pstep7 h nn hk hnn hS8 hSr hO8
  · exact pstep8 h nn hk hnn hS8 hSr hO8
  · exact pstep9 h nn hk hnn hS8 hSr hO8
  · exact pstep10 h nn hk hnn hS8 hSr hO8
  · exact pstep11 h nn hk hnn hS8 hSr hO8
  · exact pstep12 h nn hk hnn hS8 hSr hO8
  · exact pstep13 h nn hk hnn hS8 hSr hO8
  · exact pstep14 h nn hk hnn (o3 (.inl rfl)).1 hS8 hSr hO8
  · exact pstep15 h nn hk hnn (o3 (.inr rfl)).1 hS8 hSr hO8
  · exact pstep16 h nn hk hnn hS8 hSr hO8
end Go.Proofs.YthhceggcdaljdaaGreat
/- the program's own run -/
namespace Go.Proofs.YthhceggcdaljdaaGreat
open Go.RowKit
set_option linter.unusedVariables false
set_option linter.unusedSimpArgs false

set_option maxRecDepth 100000 in
set_option maxHeartbeats 8000000 in
theorem prun_any {B bm : Nat} {rk rv : Int} {w : World} {sv ov : Value} (p : List NV) (b off cap : Nat) (h : Mach B bm rk rv w 0 sv ov [] []) (hl : p.length ≤ 64) (hb : b < B) (hr : RC.Row w b off p) (hall : ∀ j, j < p.length → NV.ok p.length p[j]!) (hpn : ∀ j, j < p.length → inR p[j]!.n) (hrk : inR rk) (hrv : inR rv) :
    Calls Tryz.prog 247 #[.pointer (some ⟨bm, 0, none⟩), .slice (some ⟨b, off, none⟩) p.length cap] w (fun e w' => e = .returned (.int .i64 (runP p ⟨rk, rv⟩ 256 [] [] 0).2) ∧ Below B w w' ∧ ((runP p ⟨rk, rv⟩ 256 [] [] 0).2 = 0 → ∃ pc sv' ov' S, Mach B bm rk rv w' pc sv' ov' S (runP p ⟨rk, rv⟩ 256 [] [] 0).1)) := by
  have hrow : Hid (∀ (W : World), Below B w W → ∀ j, j < p.length → _) := fun W hW j hj => atC7 (hr.below hW hb) j hj
  have hres : Hid (∀ res, runP p ⟨rk, rv⟩ 256 [] [] 0 = res → runP p ⟨rk, rv⟩ 256 [] [] 0 = res) := fun _ h => h
  generalize hR : runP p ⟨rk, rv⟩ 256 [] [] 0 = res at *
  have HR := Lib.hid hR; have HAll := Lib.hid hall; have HPn := Lib.hid hpn; have H := Lib.hid h
  have hn : ∃ n, p.length = n ∧ n ≤ 64 := ⟨_, rfl, hl⟩
  obtain ⟨n, hn, hn64⟩ := hn
  have HN := Lib.hid hn
  clear hr hall hpn hR hl h hres
  rw [hn] at hrow HAll HPn ⊢
  clear hn
  obtain ⟨rp, re⟩ := res
  show Calls _ _ _ _ (fun e w' => e = .returned (.int .i64 re) ∧ Below B w w' ∧ (re = 0 → ∃ pc sv' ov' S, Mach B bm rk rv w' pc sv' ov' S rp))
  go_enter Tryz.func247, Tryz.ntmps247
  go_wp2
  go_loopg [5] 300 (fun gg f wr => ∃ (j k : Nat) (sv ov : Value) (S : List Int) (O : List RV), f = .int .i64 (j : Int) ∧ j ≤ 256 ∧ j ≤ gg ∧ k ≤ n ∧ Hid (Below B w wr) ∧ Hid (Mach B bm rk rv wr (k : Int) sv ov S O) ∧ Hid (S.length ≤ 8) ∧ Hid (∀ x ∈ S, inR x) ∧ Hid (O.length ≤ 8) ∧ Hid (runP p ⟨rk, rv⟩ j S O k = (rp, re)))
  case atStart => exact ⟨256, 0, _, _, [], [], rfl, by omega, by omega, by omega, Below.refl _ _, H.out, by show (0 : Nat) ≤ 8; omega, (fun x hx => by simp at hx), by show (0 : Nat) ≤ 8; omega, HR.out⟩
  case round =>
    obtain ⟨j, k, sv, ov, S, O, rfl, hj, hg, hkn, HB, HM, HS8, HSr, HO8, HC⟩ := hrel
    have c2 : wr.cell? ⟨bm, 2, none⟩ = some (.int .i64 (k : Int)) := rowOf_cell HM.out.row 2
    by_cases hlt : k < n
    · have hlz : (k : Int) < (n : Int) := by omega
      cases j with
      | zero =>
        have hq := HC.out
        rw [runP_fuel (by rw [HN.out]; exact hlt)] at hq
        have hq2 : re = 4 := (Prod.mk.inj hq).2.symm
        subst hq2
        clear HC hrow HAll HPn hq
        go_wp2
        go_returns
        exact ⟨rfl, HB.out, fun e => absurd (show (4 : Int) = 0 from e) (by decide)⟩
      | succ i =>
        have hc := hrow.out wr HB.out k hlt
        have hok := HAll.out k hlt
        have hnn := HPn.out k hlt
        have hbad := fun (h : (stepP ⟨rk, rv⟩ p[k]! S O (k + 1)).1 ≠ 0) => runP_bad (f := i) (p := p) (r := ⟨rk, rv⟩) (s := S) (out := O) (e := (stepP ⟨rk, rv⟩ p[k]! S O (k + 1)).1) (s' := (stepP ⟨rk, rv⟩ p[k]! S O (k + 1)).2.1) (out' := (stepP ⟨rk, rv⟩ p[k]! S O (k + 1)).2.2.1) (pc' := (stepP ⟨rk, rv⟩ p[k]! S O (k + 1)).2.2.2) (pc := k) (by rw [HN.out]; exact hlt) rfl h
        have hgo := fun (h : (stepP ⟨rk, rv⟩ p[k]! S O (k + 1)).1 = 0) => runP_go (f := i) (p := p) (r := ⟨rk, rv⟩) (s := S) (out := O) (s' := (stepP ⟨rk, rv⟩ p[k]! S O (k + 1)).2.1) (out' := (stepP ⟨rk, rv⟩ p[k]! S O (k + 1)).2.2.1) (pc' := (stepP ⟨rk, rv⟩ p[k]! S O (k + 1)).2.2.2) (pc := k) (by rw [HN.out]; exact hlt) (by rw [← h])
        generalize p[k]! = x at *
        obtain ⟨op, nn⟩ := x
        have hst := fun h0 => stepP_ok (rk := rk) (rv := rv) hok hnn hrk hrv HS8.out HSr.out HO8.out hlt h0
        have HP := Lib.hid (pstep_any HM.out op nn hok (by omega) hnn HS8.out HSr.out HO8.out)
        obtain ⟨f0, f1⟩ := hc
        simp only at f0 f1
        unfold StepR at HP
        have HC2 := HC.out
        generalize stepP ⟨rk, rv⟩ ⟨op, nn⟩ S O (k + 1) = st at *
        obtain ⟨e0, S', O', k'⟩ := st
        simp only at hbad hgo hst HP
        have HBad := Lib.hid (fun h => (hbad h).symm.trans HC2); have HGo := Lib.hid (fun h => (hgo h).symm.trans HC2); have HSt := Lib.hid hst
        clear hbad hgo hst HC HC2 hok hnn HS8 HSr HO8 HM
        have hji : (((i + 1 : Nat) : Int) == 0) = false := by simp; omega
        go_wp2_with fail
        refine (HP.out).mono ?_
        rintro e w4 ⟨rfl, hb4, hM4⟩
        have HM4 := Lib.hid hM4; have HB4 := Lib.hid (HB.out.trans hb4)
        clear hM4 hb4 HP HB f0 f1 c2
        by_cases he : e0 = 0
        · subst he
          obtain ⟨q1, q2, q3, q4⟩ := HSt.out rfl
          obtain ⟨sv', ov', hM⟩ := HM4.out rfl
          have HMn := Lib.hid hM; have HCn := Lib.hid (HGo.out rfl); have Hq1 := Lib.hid q1; have Hq2 := Lib.hid q2; have Hq3 := Lib.hid q3
          clear hM HM4 HGo HBad HSt q1 q2 q3
          go_wp2
          go_roundg i
          case measure => omega
          case rel => exact ⟨i, k', _, _, _, _, by first | rfl | go_num, by omega, by omega, by omega, HB4.out, HMn.out, Hq1.out, Hq2.out, Hq3.out, HCn.out⟩
        · have heb : (e0 == 0) = false := by simpa using he
          have hen : (e0 != 0) = true := by simpa using he
          have hq := HBad.out he
          have hq2 : re = e0 := (Prod.mk.inj hq).2.symm
          subst hq2
          have HE := Lib.hid he
          clear HBad HGo HSt HM4 he hq
          go_wp2
          go_returns
          exact ⟨rfl, HB4.out, fun e => absurd e HE.out⟩
    · have hlz : ¬ (k : Int) < (n : Int) := by omega
      have hq := HC.out
      rw [runP_end (by rw [HN.out]; omega)] at hq
      obtain ⟨q1, q2⟩ := Prod.mk.inj hq
      subst q1
      subst q2
      clear hrow HAll HPn HC hq
      go_wp2
      go_returns
      first | exact ⟨rfl, HB.out, fun _ => ⟨_, _, _, _, HM.out⟩⟩ | exact ⟨rfl, HB.out, ⟨_, _, _, _, HM.out⟩⟩
set_option maxRecDepth 100000 in
set_option maxHeartbeats 4000000 in
theorem prun_nil {B bm : Nat} {rk rv : Int} {w : World} {sv ov : Value} (h : Mach B bm rk rv w 0 sv ov [] []) (q : Option Addr) (cap : Nat) :
    Calls Tryz.prog 247 #[.pointer (some ⟨bm, 0, none⟩), .slice q 0 cap] w (fun e w' => e = .returned (.int .i64 0) ∧ Below B w w' ∧ ∃ pc sv' ov' S, Mach B bm rk rv w' pc sv' ov' S []) := by
  have c2 : w.cell? ⟨bm, 2, none⟩ = some (.int .i64 0) := rowOf_cell h.row 2
  have H := Lib.hid h
  clear h
  go_enter Tryz.func247, Tryz.ntmps247
  go_wp2_with fail
  refine wp_loop_rounds 1 ?_
  rw [rounds_succ]
  go_wp2
  go_returns
  exact ⟨rfl, Below.refl _ _, _, _, _, _, H.out⟩
end Go.Proofs.YthhceggcdaljdaaGreat
/- the program's own rightOne and Right -/
namespace Go.Proofs.YthhceggcdaljdaaGreat
open Go.RowKit
set_option linter.unusedVariables false
set_option linter.unusedSimpArgs false

theorem retB {a : Bool} {b : Bool} (h : a = b) : Ending.returned (.bool a) = .returned (.bool b) := by rw [h]
set_option maxRecDepth 100000 in
set_option maxHeartbeats 8000000 in
theorem prightOne_any (op n : Int) (len : Nat) (w : World) : Calls Tryz.prog 263 #[.agg #[.int .i64 op, .int .i64 n], .int .i64 (len : Int)] w (Ret (.bool (decide (NV.ok len ⟨op, n⟩))) w) := by
  have HB := Lib.hid ((Below.refl w.heap.size w).alloc (Nat.le_refl _) (.cells #[.int .i64 op, .int .i64 n] 228))
  by_cases h1 : op = 1
  · subst h1
    rw [decide_eq_true (show NV.ok len ⟨1, n⟩ by unfold NV.ok; simp only; omega)]
    go_enter Tryz.func263, Tryz.ntmps263
    go_wp2
    all_goals go_returns
    all_goals exact ⟨rfl, HB.out⟩
  have e1 : (op == 1) = false := by simpa using h1
  by_cases hj : op = 14 ∨ op = 15
  · have hv : decide (NV.ok len ⟨op, n⟩) = (decide (0 ≤ n) && decide (n ≤ (len : Int))) := by
      rw [Bool.eq_iff_iff, Bool.and_eq_true, decide_eq_true_eq, decide_eq_true_eq, decide_eq_true_eq]
      unfold NV.ok
      simp only
      omega
    rw [hv]
    clear hv h1
    have hop : op = 14 ∨ op = 15 := hj
    clear hj
    rcases hop with rfl | rfl
    all_goals
      by_cases z0 : 0 ≤ n
      · by_cases z1 : n ≤ (len : Int)
        · rw [decide_eq_true z0, decide_eq_true z1]
          go_enter Tryz.func263, Tryz.ntmps263
          go_wp2
          all_goals go_returns
          all_goals exact ⟨rfl, HB.out⟩
        · rw [decide_eq_true z0, decide_eq_false z1]
          go_enter Tryz.func263, Tryz.ntmps263
          go_wp2
          all_goals go_returns
          all_goals exact ⟨rfl, HB.out⟩
      · rw [decide_eq_false z0, Bool.false_and]
        go_enter Tryz.func263, Tryz.ntmps263
        go_wp2
        all_goals go_returns
        all_goals exact ⟨rfl, HB.out⟩
  have e2 : (op == 14) = false := by simp; omega
  have e3 : (op == 15) = false := by simp; omega
  have hv : decide (NV.ok len ⟨op, n⟩) = (decide (1 < op) && decide (op ≤ 16) && decide (n = 0)) := by
    rw [Bool.eq_iff_iff, Bool.and_eq_true, Bool.and_eq_true, decide_eq_true_eq, decide_eq_true_eq, decide_eq_true_eq, decide_eq_true_eq]
    unfold NV.ok
    simp only
    omega
  rw [hv]
  clear hv h1 hj
  by_cases z0 : 1 < op
  · rw [decide_eq_true z0]
    by_cases z1 : op ≤ 16
    · rw [decide_eq_true z1]
      by_cases z2 : n = 0
      · subst z2
        go_enter Tryz.func263, Tryz.ntmps263
        go_wp2
        all_goals go_returns
        all_goals exact ⟨rfl, HB.out⟩
      · rw [decide_eq_false z2]
        have e4 : (n == 0) = false := by simpa using z2
        go_enter Tryz.func263, Tryz.ntmps263
        go_wp2
        all_goals go_returns
        all_goals exact ⟨rfl, HB.out⟩
    · rw [decide_eq_false z1, Bool.true_and, Bool.false_and]
      go_enter Tryz.func263, Tryz.ntmps263
      go_wp2
      all_goals go_returns
      all_goals exact ⟨rfl, HB.out⟩
  · rw [decide_eq_false z0, Bool.false_and, Bool.false_and]
    go_enter Tryz.func263, Tryz.ntmps263
    go_wp2
    all_goals go_returns
    all_goals exact ⟨rfl, HB.out⟩
set_option maxRecDepth 100000 in
set_option maxHeartbeats 8000000 in
theorem pright_row (xs : List NV) (b off cap : Nat) (w : World) (hl : xs.length ≤ 900000) (hb : b < w.heap.size) (hr : RC.Row w b off xs) :
    Calls Tryz.prog 239 #[.slice (some ⟨b, off, none⟩) xs.length cap] w (Ret (.bool (rightC xs)) w) := by
  have hrow : Hid (∀ (W : World), Below w.heap.size w W → ∀ j, j < xs.length → _) := fun W hW j hj => atC7 (hr.below hW hb) j hj
  have hstep := Lib.hid (fun j (hj : j < xs.length) => all_drop (len := xs.length) hj)
  have hst : xs.length ≤ 64 → (xs.drop 0).all (fun x => decide (x.ok xs.length)) = rightC xs := fun h => by unfold rightC; rw [decide_eq_true h, Bool.and_true]; rfl
  have hbig : ¬ xs.length ≤ 64 → rightC xs = false := fun h => by unfold rightC; rw [decide_eq_false h, Bool.and_false]
  have hend : ((xs.drop xs.length).all fun x => decide (x.ok xs.length)) = true := by rw [List.drop_length]; rfl
  have HSt := Lib.hid hst; have HEnd := Lib.hid hend; have HBig := Lib.hid hbig
  clear hr hst hend hbig
  generalize rightC xs = res at *
  generalize hn : xs.length = n at *
  have HN := Lib.hid hn
  clear hn
  have HC := Lib.hid (fun op nn W => prightOne_any op nn n W)
  by_cases h64 : (n : Int) > 64
  · have hq := HBig.out (by omega)
    subst hq
    clear hrow hstep
    go_enter Tryz.func239, Tryz.ntmps239
    go_wp2
    all_goals go_returns
    all_goals exact ⟨rfl, Below.refl _ _⟩
  have HSt2 := Lib.hid (HSt.out (by omega))
  clear HSt HBig
  go_enter Tryz.func239, Tryz.ntmps239
  go_wp2
  go_loopg [10] n (fun gg i wr => ∃ k : Nat, k ≤ n ∧ n - k ≤ gg ∧ i = .int .i64 k ∧ Hid (Below w.heap.size w wr) ∧ Hid ((xs.drop k).all (fun x => decide (x.ok n)) = res))
  case atStart => exact ⟨0, Nat.zero_le _, by omega, rfl, (Below.refl _ _), HSt2.out⟩
  case round =>
    obtain ⟨k, hkn, hg, rfl, HB, HQ⟩ := hrel
    by_cases hlt : k < n
    · have hlz : (k : Int) < (n : Int) := by omega
      have hc := hrow.out wr HB.out k hlt
      have hq := HQ.out
      rw [hstep.out k hlt] at hq
      generalize xs[k]! = x at hc hq
      obtain ⟨op, nn⟩ := x
      obtain ⟨f0, f1⟩ := hc
      simp only at f0 f1
      have HCx := Lib.hid (HC.out op nn)
      generalize decide (NV.ok n ⟨op, nn⟩) = ok at *
      have HB1 := Lib.hid (HB.out.alloc HB.out.size (.cells #[.int .i64 op, .int .i64 nn] 228))
      clear hrow hstep HQ HC
      have HQ2 := Lib.hid hq
      clear hq
      go_wp2_with fail
      refine (HCx.out _).mono ?_
      rintro e w1 ⟨rfl, hb1⟩
      have HB2 := Lib.hid (HB1.out.trans (hb1.mono HB1.out.size))
      clear hb1 f0 f1
      cases ok
      · have hq := HQ2.out
        rw [Bool.false_and] at hq
        subst hq
        go_wp2
        all_goals go_returns
        all_goals exact ⟨rfl, HB2.out⟩
      · have hq := HQ2.out
        rw [Bool.true_and] at hq
        have HQ3 := Lib.hid hq
        clear hq
        go_wp2
        go_roundg (n - (k + 1))
        case measure => omega
        case rel => exact ⟨k + 1, by omega, by omega, by go_num, HB2.out, HQ3.out⟩
    · have hlz : ¬ (k : Int) < (n : Int) := by omega
      obtain rfl : k = n := by omega
      have hq := HQ.out
      rw [HEnd.out] at hq
      subst hq
      clear hrow hstep HQ
      go_wp2
      all_goals go_returns
      all_goals exact ⟨rfl, HB.out⟩
set_option maxHeartbeats 2000000 in
theorem pright_nil (p : Option Addr) (cap : Nat) (w : World) : Calls Tryz.prog 239 #[.slice p 0 cap] w (Ret (.bool (rightC [])) w) := by
  have h : rightC [] = true := rfl
  rw [h]
  go_enter Tryz.func239, Tryz.ntmps239
  go_wp2
  refine wp_loop_rounds 1 ?_
  rw [rounds_succ]
  go_wp2
  go_returns
  exact ⟨rfl, Below.refl _ _⟩
theorem pright_any (xs : List NV) (v : Value) (w : World) (hl : xs.length ≤ 900000) (h : RC.Is w v xs) : Calls Tryz.prog 239 #[v] w (Ret (.bool (rightC xs)) w) := by
  rcases h with ⟨rfl, p, cap, rfl, _⟩ | ⟨_, b, off, cap, rfl, hb, hr⟩
  · exact pright_nil p cap w
  · exact pright_row xs b off cap w hl hb hr
end Go.Proofs.YthhceggcdaljdaaGreat
/- the document's Run: the walk -/
namespace Go.Proofs.YthhceggcdaljdaaGreat
open Go.RowKit
set_option linter.unusedVariables false
set_option linter.unusedSimpArgs false

attribute [local simp] size_setRow
attribute [local go_sem] rowAt_head rowOf_alloc_at rowOf_alloc_past rowOf_drew rowOf_drewN rowOf_setRow_same rowOf_setRow_other rowOf_setCell_same rowOf_setCell_other size_setRow setRow_drew setRow_alloc_at setRow_alloc_past one_int one_bool

theorem ofN_ok (op : Int) {a b : Int} (ha : inR a) (hb : inR b) : inR (ofN op a b).1 ∧ ((ofN op a b).2 = 0 ∨ (2 ≤ (ofN op a b).2 ∧ (ofN op a b).2 ≤ 3)) := by
  have hr : ∀ x, inR (roomN x).1 ∧ ((roomN x).2 = 0 ∨ (2 ≤ (roomN x).2 ∧ (roomN x).2 ≤ 3)) := fun x => by
    by_cases h : inR x
    · rw [roomN_in h]; exact ⟨h, .inl rfl⟩
    · rw [roomN_out h]; exact ⟨by decide, .inr ⟨by decide, by decide⟩⟩
  have hz : inR 0 := by decide
  unfold ofN
  split
  · exact hr _
  split
  · exact hr _
  split
  · exact hr _
  split
  · split
    · exact ⟨hz, .inr ⟨by decide, by decide⟩⟩
    · exact hr _
  split
  · split
    · exact ⟨hz, .inr ⟨by decide, by decide⟩⟩
    · rename_i h; exact ⟨tmod_in ha h, .inl rfl⟩
  split
  · refine ⟨?_, .inl rfl⟩; split <;> decide
  split
  · refine ⟨?_, .inl rfl⟩; split <;> decide
  exact ⟨hz, .inl rfl⟩
/-- the call answers what the program makes of the record -/
def RunR (p : List NV) (r : RV) (w : World) (e : Ending) (w' : World) : Prop :=
  ∃ v, e = .returned (.tuple #[v, .int .i64 (runC p r).2]) ∧ RR.Own w.heap.size w' v (runC p r).1 ∧ Below w.heap.size w w'
end Go.Proofs.YthhceggcdaljdaaGreat
/- the fixed answer of the laws on programs; the law ProgRight: over what the program's own Run and Right answer (ProgC) -/
namespace Go.Proofs.YthhceggcdaljdaaGreat
open Go.RowKit
set_option linter.unusedVariables false
set_option linter.unusedSimpArgs false
attribute [local go_sem ↓] run_imin
attribute [local go_sem ↓] eqRec neRec

/-- the program's own two functions answer so -/
structure ProgC : Prop where
  run : ∀ (p : List NV) (v : Value) (rk rv : Int) (w : World), p.length ≤ 1000 → RC.Is w v p → (∀ x ∈ p, inR x.n) → inR rk → inR rv → Calls Tryz.prog 220 #[v, .agg #[.int .i64 rk, .int .i64 rv]] w (RunR p ⟨rk, rv⟩ w)
  right : ∀ (p : List NV) (v : Value) (w : World), p.length ≤ 1000 → RC.Is w v p → Calls Tryz.prog 239 #[v] w (Ret (.bool (rightC p)) w)
theorem atR7 {w : World} {b off : Nat} {xs : List RV} (h : RR.Row w b off xs) (j : Nat) (hj : j < xs.length) :
    w.cell? ⟨b, off + j * 2, none⟩ = some (.int .i64 xs[j]!.k) ∧ w.cell? ⟨b, off + j * 2 + 1, none⟩ = some (.int .i64 xs[j]!.v) :=
  ⟨h j hj 0 _ rfl, h j hj 1 _ rfl⟩
def progAw : List NV := [⟨2, 0⟩, ⟨3, 0⟩, ⟨1, 1⟩, ⟨4, 0⟩, ⟨16, 0⟩]
theorem progAw_is : runC progAw ⟨3, 4⟩ = ([⟨3, 5⟩], 0) := by decide +kernel
end Go.Proofs.YthhceggcdaljdaaGreat
