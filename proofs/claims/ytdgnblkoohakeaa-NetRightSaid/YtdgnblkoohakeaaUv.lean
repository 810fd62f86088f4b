/- slices.Delete of one element, in a row of the call's own: boxes, messages -/
import Derived.Test.YtdgnblkoohakeaaUu
import Derived.Test.YtdgnblkoohakeaaUb
import Derived.Deep.RegionLaw
namespace Go.Proofs.Ytdgnblkoohakeaa
open Go.RowKit
set_option linter.unusedVariables false
set_option linter.unusedSimpArgs false

theorem grown_tr {w w' w'' : World} {r : Option Nat} (h : w.grownBy w' r) (k : w'.grownBy w'' r) : w.grownBy w'' r :=
  ⟨k.os.trans h.os, k.tape.trans h.tape, k.output.trans h.output, Nat.le_trans h.size k.size, fun i hi hne => (k.block i (Nat.lt_of_lt_of_le hi h.size) hne).trans (h.block i hi hne)⟩
theorem grown_refl (w : World) (r : Option Nat) : w.grownBy w r := ⟨rfl, rfl, rfl, Nat.le_refl _, fun _ _ _ => rfl⟩
theorem grown_of {w w' : World} (h : Below w.heap.size w w') (r : Option Nat) : w.grownBy w' r := ⟨h.os, h.tape, h.output, h.size, fun i hi _ => h.block i hi⟩
set_option maxRecDepth 100000 in
set_option maxHeartbeats 16000000 in
theorem pdelB_any (xs : List BW) (g cap i B : Nat) (w : World) (h : RB4.Own B w (.slice (some ⟨g, 0, none⟩) xs.length cap) xs) (hi : i < xs.length) (hl : xs.length ≤ 900000) (hB : B ≤ w.heap.size) : Calls Try.prog 26 #[.slice (some ⟨g, 0, none⟩) xs.length cap, .int .i64 (i : Int), .int .i64 ((i + 1 : Nat) : Int)] w (fun e w' => e = .returned (.slice (some ⟨g, 0, none⟩) (xs.length - 1) cap) ∧ RB4.Own B w' (.slice (some ⟨g, 0, none⟩) (xs.length - 1) cap) (xs.eraseIdx i) ∧ w.grownBy w' (some g)) := by
  obtain ⟨cur, hg, hn, hBg, hc, hm, hs, ht⟩ := h.row
  have HFr := Lib.hid (h.front (i := i) (by omega))
  have HAp : Hid (∀ (W : World) (ad : Addr) (m c : Nat), W.heap[g]? = w.heap[g]? → (i + 1 < xs.length → ad = ⟨g, (i + 1) * 4, none⟩) → m = xs.length - (i + 1) → RB4.App W (.slice (some ad) m c) (xs.drop (i + 1))) := fun W ad m c hW had hm => h.appFrom (by omega) hW had hm
  have HEq : Hid (xs.take i ++ xs.drop (i + 1) = xs.eraseIdx i) := (List.eraseIdx_eq_take_drop_succ _ _).symm
  have HLt : Hid ((xs.take i).length = i) := by rw [Hid, List.length_take]; omega
  have HLd : Hid ((xs.drop (i + 1)).length = xs.length - (i + 1)) := by rw [Hid, List.length_drop]
  have HLe : Hid ((xs.eraseIdx i).length = xs.length - 1) := by rw [Hid, List.length_eraseIdx, if_pos hi]
  generalize xs.drop (i + 1) = yd at *
  generalize xs.take i = yt at *
  generalize xs.eraseIdx i = ye at *
  generalize xs.length = n at *
  have i1 : (i : Int) ≤ ((i + 1 : Nat) : Int) := by omega
  have i2 : ((i + 1 : Nat) : Int) ≤ (n : Int) := by omega
  have i3 : (n : Int) ≤ (cap : Int) := by omega
  have i4 : ((i : Int) == ((i + 1 : Nat) : Int)) = false := by simp; omega
  have i5 : (i : Int) ≤ (cap : Int) := by omega
  have i6 : i + 1 ≤ n := by omega
  have i7 : n ≤ cap := by omega
  have i8 : i ≤ cap := by omega
  have i9 : i ≤ i + 1 := by omega
  have j0 : 0 ≤ (i : Int) + 1 := by omega
  have j1 : (i : Int) + 1 ≤ (n : Int) := by omega
  have j2 : ((i : Int) + 1).toNat = i + 1 := by omega
  have HRm : Hid (yt.length + yd.length ≤ cap) := by rw [Hid, HLt.out, HLd.out]; omega
  have HBy : Hid ((yt.length + yd.length) * RB4.bytes ≤ 140737488355328) := by
    have : RB4.bytes = 48 := rfl
    rw [Hid, HLt.out, HLd.out, this]; omega
  clear h hg hm hs ht hn
  go_enter Try.func26, Try.ntmps26
  obtain ⟨pv, hpv⟩ : ∃ pv : Option Addr, (if cap = i + 1 then some (⟨g, 0, none⟩ : Addr) else some ⟨g, (i + 1) * 4, none⟩) = pv := ⟨_, rfl⟩
  have HS2 : Hid (RB4.App w.drew (.slice pv (n - (i + 1)) (cap - (i + 1))) yd) := by
    rw [← hpv]
    by_cases hcc : cap = i + 1
    · rw [if_pos hcc]
      exact HAp.out _ _ _ _ rfl (fun q => absurd q (by omega)) rfl
    · rw [if_neg hcc]
      exact HAp.out _ _ _ _ rfl (fun _ => rfl) rfl
  obtain ⟨n1, hn1⟩ : ∃ n1, n1 + 1 = n := ⟨n - 1, by omega⟩
  have HM : Hid (n1 = i + yd.length) := by rw [Hid, HLd.out]; omega
  have HN1 := Lib.hid hn1
  have k1 : (n1 : Int) ≤ (n : Int) := by omega
  have k2 : ¬ cap = n1 := by omega
  have k3 : n1 ≤ n := by omega
  have k4 : n1 ≤ cap := by omega
  have HCl : Hid (ye.length + (0 + 1) ≤ cap) := by rw [Hid, HLe.out]; omega
  have HOf : Hid (n1 * 4 = ye.length * RB4.k) := by rw [Hid, HLe.out]; show n1 * 4 = (n - 1) * 4; omega
  have HLl : Hid (n - n1 = 0 + 1) := by rw [Hid]; omega
  clear hn1 HAp HLd HLe hi hl
  go_upto_region 5 with (fail)
  go_region_law (refine RowKind.Own.roomR (R := RB4) (xs := yt) (ys := yd) (cap := cap) (g := g) (m := n1) (by decide) rfl _ _ rfl HLt.out.symm HM.out HFr.out.drew rfl rfl HS2.out HBy.out hB HRm.out ?_; intro w9 hO9 hG9)
  all_goals
    try simp only [List.getElem_toArray, List.getElem_cons_succ, List.getElem_cons_zero, Act.put, List.setIfInBounds_toArray, List.set_cons_zero, List.set_cons_succ]
    rw [HEq.out] at hO9
    have HO9 := Lib.hid hO9
    have HG9 : Hid (w.grownBy w9 (some g)) := grown_tr (grown_of (Below.refl _ _).drew (some g)) hG9
    clear hO9 hG9 HFr HS2
    go_wp2_with (refine RowKind.Own.clearB (R := RB4) (m := 0) HO9.out (fun _ => by kernel_rfl) (by decide) HCl.out HOf.out HLl.out rfl _ rfl rfl ?_; intro w10 hO10 hG10; have HO10 := Lib.hid hO10; have HG10 := Lib.hid (grown_tr HG9.out hG10); clear hO10 hG10)
    go_returns
    exact ⟨by rw [← HN1.out]; rfl, by have q := HO10.out; rw [← HN1.out]; exact q, HG10.out⟩
set_option maxRecDepth 100000 in
set_option maxHeartbeats 16000000 in
theorem pdelM_any (xs : List MV) (g cap i B : Nat) (w : World) (h : RM.Own B w (.slice (some ⟨g, 0, none⟩) xs.length cap) xs) (hi : i < xs.length) (hl : xs.length ≤ 900000) (hB : B ≤ w.heap.size) : Calls Try.prog 27 #[.slice (some ⟨g, 0, none⟩) xs.length cap, .int .i64 (i : Int), .int .i64 ((i + 1 : Nat) : Int)] w (fun e w' => e = .returned (.slice (some ⟨g, 0, none⟩) (xs.length - 1) cap) ∧ RM.Own B w' (.slice (some ⟨g, 0, none⟩) (xs.length - 1) cap) (xs.eraseIdx i) ∧ w.grownBy w' (some g)) := by
  obtain ⟨cur, hg, hn, hBg, hc, hm, hs, ht⟩ := h.row
  have HFr := Lib.hid (h.front (i := i) (by omega))
  have HAp : Hid (∀ (W : World) (ad : Addr) (m c : Nat), W.heap[g]? = w.heap[g]? → (i + 1 < xs.length → ad = ⟨g, (i + 1) * 10, none⟩) → m = xs.length - (i + 1) → RM.App W (.slice (some ad) m c) (xs.drop (i + 1))) := fun W ad m c hW had hm => h.appFrom (by omega) hW had hm
  have HEq : Hid (xs.take i ++ xs.drop (i + 1) = xs.eraseIdx i) := (List.eraseIdx_eq_take_drop_succ _ _).symm
  have HLt : Hid ((xs.take i).length = i) := by rw [Hid, List.length_take]; omega
  have HLd : Hid ((xs.drop (i + 1)).length = xs.length - (i + 1)) := by rw [Hid, List.length_drop]
  have HLe : Hid ((xs.eraseIdx i).length = xs.length - 1) := by rw [Hid, List.length_eraseIdx, if_pos hi]
  generalize xs.drop (i + 1) = yd at *
  generalize xs.take i = yt at *
  generalize xs.eraseIdx i = ye at *
  generalize xs.length = n at *
  have i1 : (i : Int) ≤ ((i + 1 : Nat) : Int) := by omega
  have i2 : ((i + 1 : Nat) : Int) ≤ (n : Int) := by omega
  have i3 : (n : Int) ≤ (cap : Int) := by omega
  have i4 : ((i : Int) == ((i + 1 : Nat) : Int)) = false := by simp; omega
  have i5 : (i : Int) ≤ (cap : Int) := by omega
  have i6 : i + 1 ≤ n := by omega
  have i7 : n ≤ cap := by omega
  have i8 : i ≤ cap := by omega
  have i9 : i ≤ i + 1 := by omega
  have j0 : 0 ≤ (i : Int) + 1 := by omega
  have j1 : (i : Int) + 1 ≤ (n : Int) := by omega
  have j2 : ((i : Int) + 1).toNat = i + 1 := by omega
  have HRm : Hid (yt.length + yd.length ≤ cap) := by rw [Hid, HLt.out, HLd.out]; omega
  have HBy : Hid ((yt.length + yd.length) * RM.bytes ≤ 140737488355328) := by
    have : RM.bytes = 80 := rfl
    rw [Hid, HLt.out, HLd.out, this]; omega
  clear h hg hm hs ht hn
  go_enter Try.func27, Try.ntmps27
  obtain ⟨pv, hpv⟩ : ∃ pv : Option Addr, (if cap = i + 1 then some (⟨g, 0, none⟩ : Addr) else some ⟨g, (i + 1) * 10, none⟩) = pv := ⟨_, rfl⟩
  have HS2 : Hid (RM.App w.drew (.slice pv (n - (i + 1)) (cap - (i + 1))) yd) := by
    rw [← hpv]
    by_cases hcc : cap = i + 1
    · rw [if_pos hcc]
      exact HAp.out _ _ _ _ rfl (fun q => absurd q (by omega)) rfl
    · rw [if_neg hcc]
      exact HAp.out _ _ _ _ rfl (fun _ => rfl) rfl
  obtain ⟨n1, hn1⟩ : ∃ n1, n1 + 1 = n := ⟨n - 1, by omega⟩
  have HM : Hid (n1 = i + yd.length) := by rw [Hid, HLd.out]; omega
  have HN1 := Lib.hid hn1
  have k1 : (n1 : Int) ≤ (n : Int) := by omega
  have k2 : ¬ cap = n1 := by omega
  have k3 : n1 ≤ n := by omega
  have k4 : n1 ≤ cap := by omega
  have HCl : Hid (ye.length + (0 + 1) ≤ cap) := by rw [Hid, HLe.out]; omega
  have HOf : Hid (n1 * 10 = ye.length * RM.k) := by rw [Hid, HLe.out]; show n1 * 10 = (n - 1) * 10; omega
  have HLl : Hid (n - n1 = 0 + 1) := by rw [Hid]; omega
  clear hn1 HAp HLd HLe hi hl
  go_upto_region 5 with (fail)
  go_region_law (refine RowKind.Own.roomR (R := RM) (xs := yt) (ys := yd) (cap := cap) (g := g) (m := n1) (by decide) rfl _ _ rfl HLt.out.symm HM.out HFr.out.drew rfl rfl HS2.out HBy.out hB HRm.out ?_; intro w9 hO9 hG9)
  all_goals
    try simp only [List.getElem_toArray, List.getElem_cons_succ, List.getElem_cons_zero, Act.put, List.setIfInBounds_toArray, List.set_cons_zero, List.set_cons_succ]
    rw [HEq.out] at hO9
    have HO9 := Lib.hid hO9
    have HG9 : Hid (w.grownBy w9 (some g)) := grown_tr (grown_of (Below.refl _ _).drew (some g)) hG9
    clear hO9 hG9 HFr HS2
    go_wp2_with (refine RowKind.Own.clearB (R := RM) (m := 0) HO9.out (fun _ => by kernel_rfl) (by decide) HCl.out HOf.out HLl.out rfl _ rfl rfl ?_; intro w10 hO10 hG10; have HO10 := Lib.hid hO10; have HG10 := Lib.hid (grown_tr HG9.out hG10); clear hO10 hG10)
    go_returns
    exact ⟨by rw [← HN1.out]; rfl, by have q := HO10.out; rw [← HN1.out]; exact q, HG10.out⟩
end Go.Proofs.Ytdgnblkoohakeaa
