/- what comes of the items of one key in two bags, as an iterator: pairs' closure -/
import Derived.Test.YthhceggcdaljdaaGreatK10
import Derived.Test.YthhceggcdaljdaaGreatK09
import Derived.Test.YthhceggcdaljdaaGreatK12
import Derived.Deep.QuietTactic
import Derived.BigQuiet
namespace Go.Proofs.YthhceggcdaljdaaGreat
open Go.RowKit Go.Shelf
attribute [local go_sem] Oper.semAt_some
set_option linter.unusedVariables false
set_option linter.unusedSimpArgs false

def pairO (c : IV) (L : List IV) : List (RV × Int) := L.map fun d => (sumO c.t.k c.t.v d.t.v, c.n * d.n)
def pairsL (mine others : List IV) : List (RV × Int) := mine.flatMap fun c => pairO c others
theorem pairO_succ {c : IV} {L : List IV} {m : Nat} (hm : m < L.length) : pairO c (L.take (m + 1)) = pairO c (L.take m) ++ [(sumO c.t.k c.t.v L[m]!.t.v, c.n * L[m]!.n)] := by
  rw [take_getA L m hm]
  simp [pairO]
theorem pairsL_succ {xs L : List IV} {j : Nat} (hj : j < xs.length) : pairsL (xs.take (j + 1)) L = pairsL (xs.take j) L ++ pairO xs[j]! L := by
  rw [take_getA xs j hj]
  simp [pairsL]
theorem pairsL_prefix {xs L : List IV} {j : Nat} (hj : j < xs.length) (m : Nat) : (pairsL (xs.take j) L ++ pairO xs[j]! (L.take m)) <+: pairsL xs L := by
  have h1 : pairsL xs L = pairsL (xs.take (j + 1)) L ++ pairsL (xs.drop (j + 1)) L := by
    unfold pairsL
    rw [← List.flatMap_append, List.take_append_drop]
  rw [h1, pairsL_succ hj]
  have h2 : pairO xs[j]! L = pairO xs[j]! (L.take m) ++ pairO xs[j]! (L.drop m) := by
    unfold pairO
    rw [← List.map_append, List.take_append_drop]
  rw [h2, List.append_assoc, List.append_assoc]
  exact ⟨_, (List.append_assoc _ _ _)⟩
theorem prod_in {a b : Int} (ha : 0 ≤ a ∧ a ≤ 2147483648) (hb : 0 ≤ b ∧ b ≤ 2147483648) : wrap64 (a * b) = a * b := by
  have h1 : 0 ≤ a * b := Int.mul_nonneg ha.1 hb.1
  have h2 : a * b ≤ 2147483648 * 2147483648 := Int.mul_le_mul ha.2 hb.2 hb.1 (by omega)
  exact wrap_in (by unfold inR; omega)
theorem cells_of {w : World} {k i : Nat} {c : Array Value} {t : TypeId} {v : Value} (h : w.heap[k]? = some (.cells c t (0, 0))) (hv : c[i]? = some v) : w.cell? ⟨k, i, none⟩ = some v := by
  simp [World.cell?, h, hv]

set_option maxRecDepth 100000 in
set_option maxHeartbeats 8000000 in
theorem pairs_row {Kp : World → World → Prop} (Br Bl Bm Bo : Nat) (hKp : ∀ A B, Kp A B → KpL Br Bl A B) (mine others : List IV) (b off cap : Nat) (po : Option Addr) (capo : Nat) (w : World) (hlB : Bl < w.heap.size) (hrB : Br < w.heap.size) (hptr : ∀ g, rowPtr w Bl = some g → g < w.heap.size)
    (hl : mine.length ≤ 900000) (hlo : others.length ≤ 900000) (hq : ∀ c ∈ mine, (inR c.t.k ∧ inR c.t.v) ∧ 0 ≤ c.n ∧ c.n ≤ 2147483648) (hqo : ∀ c ∈ others, (inR c.t.k ∧ inR c.t.v) ∧ 0 ≤ c.n ∧ c.n ≤ 2147483648)
    (hw : ∀ W, KpL Br Bl w W → (W.cell? ⟨Bm, 0, none⟩ = some (.slice (some ⟨b, off, none⟩) mine.length cap) ∧ W.cell? ⟨Bo, 0, none⟩ = some (.slice po others.length capo)) ∧ RI.Row W b off mine ∧ b < W.heap.size ∧ RI.Is W (.slice po others.length capo) others) :
    Iter Tryz.prog 249 #[.pointer (some ⟨Bm, 0, none⟩), .pointer (some ⟨Bo, 0, none⟩)] encO Kp (pairsL mine others) w := fun l J Jx W hW hJ hJx hY hj => by
  have HK0 := Lib.hid (KpL.of_below (Br := Br) hW hlB)
  have hc0 := (hw W HK0.out).1.1
  have HW := Lib.hid hw
  have HXL := Lib.hid hl
  have HOL := Lib.hid hlo
  have HP0 : Hid (∀ g, rowPtr W Bl = some g → g < W.heap.size) := HK0.out.lt hptr
  clear hw hl hlo
  refine (callsIn_wide (n := 3)).1 ?_
  refine callsIn_of_wp Tryz.func249 rfl trivial ?_ rfl
  simp only [Tryz.ntmps249, List.size_toArray, List.length_cons, List.length_nil, Nat.reduceAdd, Nat.reduceSub, Array.replicate_succ, Array.replicate_zero, List.push_toArray, List.append_toArray, List.nil_append, List.cons_append]
  gi_wp2
  gi_loopw [10] (fun i wr => ∃ j : Nat, j ≤ mine.length ∧ i = .int .i64 j ∧ J (pairsL (mine.take j) others) wr ∧ Hid (KpL Br Bl w wr) ∧ Hid (∀ g, rowPtr wr Bl = some g → g < wr.heap.size))
    (fun i _ => mine.length - (intOf i).toNat)
  case atStart => exact ⟨0, Nat.zero_le _, rfl, by rw [List.take_zero]; exact hj, HK0.out, HP0.out⟩
  case round =>
    obtain ⟨j, hjn, rfl, hJs, HK, HP⟩ := hrel
    by_cases hlt : j < mine.length
    · have F := HW.out _ HK.out
      have hc := atI F.2.1 j hlt
      have HQ1 := Lib.hid (hq _ (getA_mem hlt))
      have HS : Hid (pairsL (mine.take (j + 1)) others = pairsL (mine.take j) others ++ pairO mine[j]! others) := pairsL_succ hlt
      have HPf : Hid (∀ m, (pairsL (mine.take j) others ++ pairO mine[j]! (others.take m)) <+: pairsL mine others) := fun m => pairsL_prefix hlt m
      have HPO : Hid (∀ m, m < others.length → pairO mine[j]! (others.take (m + 1)) = pairO mine[j]! (others.take m) ++ [(sumO mine[j]!.t.k mine[j]!.t.v others[m]!.t.v, mine[j]!.n * others[m]!.n)]) := fun m hm => pairO_succ hm
      obtain ⟨⟨g0, g1⟩, _, hbl, _⟩ := F
      generalize mine[j]! = it at *
      obtain ⟨⟨ik, iv⟩, inn⟩ := it
      obtain ⟨e0, e1, e2⟩ := hc
      simp only at e0 e1 e2
      have hlz : (j : Int) < (mine.length : Int) := by omega
      have hBo := cell_in g1
      gi_wp2

      have hj1 : Hid (J (pairsL (mine.take j) others) (wr.alloc (.cells #[.int .i64 ik, .int .i64 iv, .int .i64 inn] 57))) := hJ _ wr _ none hJs (World.grownBy_alloc wr _ none) (fun r e => by cases e)
      have HKa : Hid (KpL Br Bl wr (wr.alloc (.cells #[.int .i64 ik, .int .i64 iv, .int .i64 inn] 57))) := KpL.of_below ((Below.refl _ _).alloc (Nat.le_refl _) _) (Nat.lt_of_lt_of_le hlB HK.out.size)
      have HK1 := Lib.hid (HK.out.trans HKa.out)
      have HP1 := Lib.hid (HKa.out.lt HP.out)
      have HBr : Hid (wr.heap.size ≠ Br ∧ wr.heap.size ≠ Bl) := by have := HK.out.size; exact ⟨by omega, by omega⟩
      have HBi : Hid ((wr.alloc (.cells #[.int .i64 ik, .int .i64 iv, .int .i64 inn] 57)).heap[wr.heap.size]? = some (.cells #[.int .i64 ik, .int .i64 iv, .int .i64 inn] 57 (0, 0))) := World.alloc_heap_new wr _
      have HBp : Hid (rowPtr (wr.alloc (.cells #[.int .i64 ik, .int .i64 iv, .int .i64 inn] 57)) Bl ≠ some wr.heap.size) := fun e => by
        rw [rowPtr_eq (Below.heap_alloc wr _ Bl (Nat.lt_of_lt_of_le hlB HK.out.size))] at e
        exact Nat.lt_irrefl _ (HP.out _ e)
      clear e0 e1 e2 g0 g1 hJs HKa
      generalize hBi0 : wr.heap.size = Bi at *
      gi_loopw [16] (fun i w2 => ∃ m : Nat, m ≤ others.length ∧ i = .int .i64 m ∧ J (pairsL (mine.take j) others ++ pairO ⟨⟨ik, iv⟩, inn⟩ (others.take m)) w2 ∧ Hid (KpL Br Bl w w2) ∧ Hid (∀ g, rowPtr w2 Bl = some g → g < w2.heap.size) ∧ Hid (w2.heap[Bi]? = some (.cells #[.int .i64 ik, .int .i64 iv, .int .i64 inn] 57 (0, 0))) ∧ Hid (rowPtr w2 Bl ≠ some Bi))
        (fun i _ => others.length - (intOf i).toNat)
      case atStart => exact ⟨0, Nat.zero_le _, rfl, by rw [List.take_zero]; show J (_ ++ []) _; rw [List.append_nil]; exact hj1.out, HK1.out, HP1.out, HBi.out, HBp.out⟩
      case round =>
        obtain ⟨m, hm, rfl, hJm, HK2, HP2, HB2, HR2⟩ := hrel
        by_cases hltm : m < others.length
        · have F2 := HW.out _ HK2.out
          obtain ⟨gg, go, ee⟩ : ∃ gg go, po = some ⟨gg, go, none⟩ := by
            rcases F2.2.2.2 with ⟨e, _⟩ | ⟨_, b2, o2, cap2, e, _⟩
            · rw [e] at hltm; exact absurd hltm (Nat.not_lt_zero _)
            · cases e; exact ⟨b2, o2, rfl⟩
          have hrow : RI.Row wr gg go others ∧ gg < wr.heap.size := by
            rcases F2.2.2.2 with ⟨e, _⟩ | ⟨_, b2, o2, cap2, e, hb2, hr2⟩
            · rw [e] at hltm; exact absurd hltm (Nat.not_lt_zero _)
            · rw [ee] at e; cases e; exact ⟨hr2, hb2⟩
          have hcr := atI hrow.1 m hltm
          subst ee
          have hltz : (m : Int) < (others.length : Int) := by omega
          have HQ2 := Lib.hid (hqo _ (getA_mem hltm))
          have HPS := Lib.hid (HPO.out m hltm)
          have HPX : Hid ((pairsL (mine.take j) others ++ pairO ⟨⟨ik, iv⟩, inn⟩ (others.take m)) ++ [(sumO ik iv others[m]!.t.v, inn * others[m]!.n)] <+: pairsL mine others) := by
            have h := HPf.out (m + 1)
            rw [HPS.out, ← List.append_assoc] at h
            exact h
          have hgg := hrow.2
          clear F2 hrow
          generalize others[m]! = ot at *
          obtain ⟨⟨ok, ov⟩, on⟩ := ot
          obtain ⟨f0, f1, f2⟩ := hcr
          simp only at f0 f1 f2
          gi_wp2
          have hBi2 : Bi < wr.heap.size := (Array.getElem?_eq_some_iff.1 HB2.out).1
          have HB3 : Hid ((wr.alloc (.cells #[.int .i64 ok, .int .i64 ov, .int .i64 on] 57)).heap[Bi]? = some (.cells #[.int .i64 ik, .int .i64 iv, .int .i64 inn] 57 (0, 0))) := (Below.heap_alloc wr _ Bi hBi2).trans HB2.out
          have HO3 : Hid ((wr.alloc (.cells #[.int .i64 ok, .int .i64 ov, .int .i64 on] 57)).heap[wr.heap.size]? = some (.cells #[.int .i64 ok, .int .i64 ov, .int .i64 on] 57 (0, 0))) := World.alloc_heap_new wr _
          have HJ3 : Hid (J (pairsL (mine.take j) others ++ pairO ⟨⟨ik, iv⟩, inn⟩ (others.take m)) (wr.alloc (.cells #[.int .i64 ok, .int .i64 ov, .int .i64 on] 57))) := hJ _ wr _ none hJm (World.grownBy_alloc wr _ none) (fun r e => by cases e)
          have HK3 : Hid (KpL Br Bl wr (wr.alloc (.cells #[.int .i64 ok, .int .i64 ov, .int .i64 on] 57))) := KpL.of_below ((Below.refl _ _).alloc (Nat.le_refl _) _) (Nat.lt_of_lt_of_le hlB HK2.out.size)
          have hl3 : Bl < (wr.alloc (.cells #[.int .i64 ok, .int .i64 ov, .int .i64 on] 57)).heap.size := Nat.lt_of_lt_of_le hlB (Nat.le_trans HK2.out.size HK3.out.size)
          refine wpIn_region_last (pre := ?pre) (tl := ?tl) 16 ?hp ?ht (by kernel_rfl) ?hB ?hT ?htl ?h
          case hp => simp only [List.take_succ_cons, List.take_zero]; exact rfl
          case ht => simp only [List.drop_succ_cons, List.drop_zero]; exact rfl
          case hB => kernel_rfl
          case hT => kernel_rfl
          case htl => exact List.cons_ne_nil _ _
          case h =>
            clear f0 f1 f2 hgg hm hltz
            generalize wr.alloc (.cells #[.int .i64 ok, .int .i64 ov, .int .i64 on] 57) = W3 at *
            have x0 : ∀ q : Bw W3, q.w.cell? ⟨Bi, 0, none⟩ = some (.int .i64 ik) := fun q => bw_cell (cells_of HB3.out rfl) q
            have x1 : ∀ q : Bw W3, q.w.cell? ⟨Bi, 1, none⟩ = some (.int .i64 iv) := fun q => bw_cell (cells_of HB3.out rfl) q
            have x2 : ∀ q : Bw W3, q.w.cell? ⟨Bi, 2, none⟩ = some (.int .i64 inn) := fun q => bw_cell (cells_of HB3.out rfl) q
            have y1 : ∀ q : Bw W3, q.w.cell? ⟨wr.heap.size, 1, none⟩ = some (.int .i64 ov) := fun q => bw_cell (cells_of HO3.out rfl) q
            have y2 : ∀ q : Bw W3, q.w.cell? ⟨wr.heap.size, 2, none⟩ = some (.int .i64 on) := fun q => bw_cell (cells_of HO3.out rfl) q
            have HSUM : Hid (∀ q : Bw W3, Calls Tryz.prog 221 #[.int .i64 ik, .int .i64 iv, .int .i64 ov] q.w fun e w'' => e = .returned (sumO ik iv ov).val ∧ ∃ p : Bw W3, w'' = p.w) := fun q => bw_call (sum_any ik iv ov q.w HQ1.out.1.2 HQ2.out.1.2)
            repeat (go_big_quiet_step (with_reducible exact HSUM.out _))
            refine wpQuiet_nil ?_
            intro _ hw'
            obtain ⟨q, hw''⟩ := hw'
            subst hw''
            clear x0 x1 x2 y1 y2 HSUM
            have HKq := Lib.hid (HK3.out.trans (KpL.of_below q.h hl3))
            have HBq : Hid (q.w.heap[Bi]? = some (.cells #[.int .i64 ik, .int .i64 iv, .int .i64 inn] 57 (0, 0))) := (q.h.block Bi (Array.getElem?_eq_some_iff.1 HB3.out).1).trans HB3.out
            have HJq := Lib.hid (hJ _ _ _ none HJ3.out (grown_of_below q.h) (fun r e => by cases e))
            generalize q.w = V at *
            obtain ⟨fn, tmps, assign, body, hy, hR⟩ := (yield_any (hY _ (sumO ik iv ov, inn * on) V HPX.out HJq.out)).1 2
            dsimp only [encO] at hy
            rw [prod_in HQ1.out.2 HQ2.out.2]
            generalize sumO ik iv ov = sm at *
            generalize inn * on = pr at *
            gi_wp2
            refine hR.mono ?_
            rintro e W5 (⟨rfl, hJ5, hk5⟩ | ⟨rfl, hJx5⟩)
            · replace hk5 := hKp _ _ hk5.1
              have hk := HKq.out.trans hk5
              have HK5 := Lib.hid (HK2.out.trans hk)
              have HP5 := Lib.hid (hk.lt HP2.out)
              have HB5 := Lib.hid (hk.keep HB2.out HBr.out.1 HBr.out.2 HR2.out)
              have HR5 := Lib.hid (hk.apart hBi2 HR2.out)
              rw [List.append_assoc, ← HPS.out] at hJ5
              clear hk hk5 hR hy
              gi_wp2
              go_roundw
              case rel => exact ⟨m + 1, by omega, by have h8 := HOL.out; rw [wrap_in (by unfold inR; omega)]; rfl, hJ5, HK5.out, HP5.out, HB5.out, HR5.out⟩
              case measure => have h8 := HOL.out; rw [wrap_in (by unfold inR; omega)]; simp [intOf]; omega
            · gi_wp2
              refine bodyPost_ret (results_none rfl _ _ _) rfl ?_
              exact ⟨⟨_, rfl⟩, .inr ⟨_, HPX.out, hJx5.1⟩⟩

        · obtain rfl : m = others.length := by omega
          rw [List.take_length, ← HS.out] at hJm
          gi_wp2
          go_roundw
          case rel => exact ⟨j + 1, by omega, by have hl := HXL.out; rw [wrap_in (by unfold inR; omega)]; rfl, hJm, HK2.out, HP2.out⟩
          case measure => have hl := HXL.out; rw [wrap_in (by unfold inR; omega)]; simp [intOf]; omega

    · obtain rfl : j = mine.length := by omega
      rw [List.take_length] at hJs
      gi_wp2
      go_end0
      exact ⟨⟨_, rfl⟩, .inl hJs⟩
end Go.Proofs.YthhceggcdaljdaaGreat
