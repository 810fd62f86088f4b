/- the document's Least on steps -/
import Derived.Test.YtedjbklejdcknaaG13
import Derived.Test.YtedjbklejdcknaaG14
namespace Go.Proofs.Ytedjbklejdcknaa
open Go.RowKit
set_option linter.unusedVariables false
set_option linter.unusedSimpArgs false
attribute [local go_sem ↓] loadHs
attribute [local simp] size_setRow
attribute [local go_sem] rowAt_head rowOf_alloc_at rowOf_alloc_past rowOf_drew rowOf_drewN rowOf_setRow_same rowOf_setRow_other rowOf_setCell_same rowOf_setCell_other size_setRow setRow_drew setRow_alloc_at setRow_alloc_past one_int one_bool cell_setRow_same cell_setRow_other frozen_setRow_same frozen_setRow_other
attribute [local go_sem ↓] run_imin
attribute [local go_sem] HV.enc

/-- is the i-th of them low, as far as the first k tell? -/
def lowTo (l : List HV) (i k : Nat) : Bool := (l[i]!).rightB && (List.range k).all fun j => decide (j = i) || (!leH l[j]! l[i]! || (leH l[i]! l[j]! && !decide (j < i)))
def leastK (l : List HV) (m : Nat) : List HV := ((List.range m).filter fun i => lowTo l i l.length).map fun i => l[i]!
/-- the lowest of some steps -/
def leastH (l : List HV) : List HV := leastK l l.length
theorem lowTo_step (l : List HV) (i k : Nat) : lowTo l i (k + 1) = (lowTo l i k && (decide (k = i) || (!leH l[k]! l[i]! || (leH l[i]! l[k]! && !decide (k < i))))) := by
  unfold lowTo
  rw [List.range_succ, List.all_append, Bool.and_assoc]
  congr 1
  simp
theorem leastK_step (l : List HV) (m : Nat) : leastK l (m + 1) = leastK l m ++ (if lowTo l m l.length = true then [l[m]!] else []) := by
  unfold leastK
  rw [List.range_succ, List.filter_append, List.map_append]
  congr 1
  simp only [List.filter_cons, List.filter_nil]
  split <;> simp_all
theorem leastK_len (l : List HV) (m : Nat) : (leastK l m).length ≤ m := by
  unfold leastK
  rw [List.length_map]
  exact Nat.le_trans (List.length_filter_le _ _) (by rw [List.length_range]; exact Nat.le_refl _)
set_option maxRecDepth 100000 in
set_option maxHeartbeats 16000000 in
theorem rleast_row (xs : List HV) (b off cap : Nat) (w : World) (hl : xs.length ≤ 1500000000000) (hb : b < w.heap.size) (hr : RHp.Row w b off xs) :
    Calls Try.prog 13 #[.slice (some ⟨b, off, none⟩) xs.length cap] w (RHp.Made (leastH xs) w) := by
  have HR := Lib.hid hr
  have HE : Hid (∀ W, Below w.heap.size w W → ∀ j, j < xs.length → elemL W ⟨b, off + j * 11, none⟩ 0 11 = some (HV.enc xs[j]!)) := fun W hW j hj => hop_elem hr hb hW j hj
  have HS := Lib.hid (leastK_step xs)
  have HT := Lib.hid (fun i k => lowTo_step xs i k)
  have HLn := Lib.hid (leastK_len xs)
  have HP := Lib.hid (fun (x : HV) W => parts_any x W)
  have H0 : Hid (leastK xs 0 = []) := rfl
  have HF : Hid (leastK xs xs.length = leastH xs) := rfl
  have HLE : Hid (∀ (x y : HV) (W : World), Calls Try.prog 28 #[x.val, y.val] W (Ret (.bool (leH x y)) W)) := fun x y W => docLe_is x y W
  have HT0 : Hid (∀ i, lowTo xs i 0 = (xs[i]!).rightB) := fun i => by unfold lowTo; simp
  clear hr
  generalize hF : leastH xs = F at *
  clear hF
  generalize hn : xs.length = n at *
  have HN := Lib.hid hn
  clear hn
  go_enter Try.func13, Try.ntmps13
  go_wp2
  go_loopg [4, 3] n (fun gg i v wr => ∃ k : Nat, k ≤ n ∧ n - k ≤ gg ∧ i = .int .i64 (k : Int) ∧ Hid (Below w.heap.size w wr) ∧ Hid (RHp.Own w.heap.size wr v (leastK xs k)))
  case atStart => exact ⟨0, Nat.zero_le _, by omega, rfl, Below.refl _ _, by rw [H0.out]; exact RowKind.Own.nil _ _ _⟩
  case round =>
    obtain ⟨i, hin, hg, rfl, HB, HO⟩ := hrel
    by_cases hlt : i < n
    · have hlz : (i : Int) < (n : Int) := by omega
      have hix : i < xs.length := by rw [HN.out]; exact hlt
      have HPi := Lib.hid (HP.out xs[i]!)
      have HT0i := Lib.hid (HT0.out i)
      have HEi := Lib.hid (fun W hW => HE.out W hW i hlt)
      obtain ⟨wo, rfl⟩ : ∃ wo : World, wo = wr := ⟨_, rfl⟩
      have E1 : elemL wo ⟨b, off + i * 11, none⟩ 0 11 = some (HV.enc xs[i]!) := HEi.out _ HB.out
      have HBe : Hid (∀ W (hW : Below w.heap.size w W) (q : Nat) (u : Value), (HV.enc xs[i]!)[q]? = some u → W.cell? ⟨b, off + i * 11 + q, none⟩ = some u) := fun W hW q u hu => hop_at HR.out hb hW i hix q hu
      generalize hy : xs[i]! = y at *
      have HY := Lib.hid hy
      clear hy
      go_wp2_with fail
      refine (HPi.out _).mono ?_
      rintro e w1 hp
      unfold PartsR at hp
      obtain ⟨v1, rfl, hv1, hb1⟩ := hp
      have HB1 := Lib.hid (bstep HB.out hb1 HB.out.size)
      have HO1 := Lib.hid (HO.out.below hb1)
      clear hb1 hv1 HB HO HPi E1
      go_wp2_with fail
      go_loopg [7, 6] n (fun gg kk lw wr => ∃ j : Nat, j ≤ n ∧ n - j ≤ gg ∧ kk = .int .i64 (j : Int) ∧ lw = .bool (lowTo xs i j) ∧ Hid (Below w.heap.size w wr) ∧ Hid (Below w1.heap.size w1 wr))
      case atStart => exact ⟨0, Nat.zero_le _, by omega, rfl, by rw [HT0i.out], HB1.out, Below.refl _ _⟩
      case round =>
        obtain ⟨j, hjn, hg2, rfl, rfl, HB2, HC2⟩ := hrel
        by_cases hlj : j < n
        · have hljz : (j : Int) < (n : Int) := by omega
          have hjx : j < xs.length := by rw [HN.out]; exact hlj
          have HStep := Lib.hid (HT.out i j)
          have HBe0 : Hid (∀ W (hW : Below w.heap.size w W), W.cell? ⟨b, off + i * 11, none⟩ = some (.int .i64 y.f)) := fun W hW => HBe.out W hW 0 _ rfl
          have HBf : Hid (∀ W (hW : Below w.heap.size w W) (q : Nat) (u : Value), (HV.enc xs[j]!)[q]? = some u → W.cell? ⟨b, off + j * 11 + q, none⟩ = some u) := fun W hW q u hu => hop_at HR.out hb hW j hjx q hu
          have HL1 := Lib.hid (HLE.out xs[j]! y)
          have HL2 := Lib.hid (HLE.out y xs[j]!)
          have hyy := HY.out
          rw [HY.out] at HStep
          generalize xs[j]! = z at *
          have HBf0 : Hid (∀ W (hW : Below w.heap.size w W), W.cell? ⟨b, off + j * 11, none⟩ = some (.int .i64 z.f)) := fun W hW => HBf.out W hW 0 _ rfl
          generalize lowTo xs i j = lo at *
          generalize hlo2 : lowTo xs i (j + 1) = lo2 at *
          have HLo := Lib.hid hlo2
          clear hlo2
          generalize leH z y = q1 at *
          generalize leH y z = q2 at *
          clear hyy hjx hix HY HT HT0i HLE HLn HR HE HEi HS HP H0 HF HT0 HN
          by_cases hij : j = i
          · have hq : lo2 = lo := by rw [HStep.out, decide_eq_true hij]; simp
            subst hq
            have hijb : ((j : Int) == (i : Int)) = true := by simp; omega
            clear HStep HL1 HL2 HBe HBf HBe0 HBf0 hij
            go_wp2_with fail
            refine wp_region_bx (by kernel_rfl) (by kernel_rfl) ?_
            repeat (first | go_big_quiet_step (first | fail) | quiet_step (first | fail))
            refine wpQuiet_nil ?_
            intro _ hw'
            obtain ⟨g9, hw''⟩ := hw'
            subst hw'' 
            have hb9 := g9.h
            generalize g9.w = w3 at hb9 ⊢
            clear g9
            have HB3 := Lib.hid (bstep HB2.out hb9 HB2.out.size)
            have HC3 := Lib.hid (bstep HC2.out hb9 HC2.out.size)
            clear hb9 HB2 HC2
            go_wp2
            go_roundg (n - (j + 1))
            case measure => omega
            case rel => exact ⟨j + 1, by omega, by omega, by go_num, by rw [HLo.out], HB3.out, HC3.out⟩
          · have hijb : ((j : Int) == (i : Int)) = false := by simp; omega
            rw [decide_eq_false hij, Bool.false_or] at HStep
            have e0 := fun p : Bx wr => bx_cell (HBe0.out wr HB2.out) p
            have e1 := fun p : Bx wr => bx_cell (HBe.out wr HB2.out 1 _ rfl) p
            have e2 := fun p : Bx wr => bx_cell (HBe.out wr HB2.out 2 _ rfl) p
            have e3 := fun p : Bx wr => bx_cell (HBe.out wr HB2.out 3 _ rfl) p
            have e4 := fun p : Bx wr => bx_cell (HBe.out wr HB2.out 4 _ rfl) p
            have e5 := fun p : Bx wr => bx_cell (HBe.out wr HB2.out 5 _ rfl) p
            have e6 := fun p : Bx wr => bx_cell (HBe.out wr HB2.out 6 _ rfl) p
            have e7 := fun p : Bx wr => bx_cell (HBe.out wr HB2.out 7 _ rfl) p
            have e8 := fun p : Bx wr => bx_cell (HBe.out wr HB2.out 8 _ rfl) p
            have e9 := fun p : Bx wr => bx_cell (HBe.out wr HB2.out 9 _ rfl) p
            have e10 := fun p : Bx wr => bx_cell (HBe.out wr HB2.out 10 _ rfl) p
            have f0 := fun p : Bx wr => bx_cell (HBf0.out wr HB2.out) p
            have f1 := fun p : Bx wr => bx_cell (HBf.out wr HB2.out 1 _ rfl) p
            have f2 := fun p : Bx wr => bx_cell (HBf.out wr HB2.out 2 _ rfl) p
            have f3 := fun p : Bx wr => bx_cell (HBf.out wr HB2.out 3 _ rfl) p
            have f4 := fun p : Bx wr => bx_cell (HBf.out wr HB2.out 4 _ rfl) p
            have f5 := fun p : Bx wr => bx_cell (HBf.out wr HB2.out 5 _ rfl) p
            have f6 := fun p : Bx wr => bx_cell (HBf.out wr HB2.out 6 _ rfl) p
            have f7 := fun p : Bx wr => bx_cell (HBf.out wr HB2.out 7 _ rfl) p
            have f8 := fun p : Bx wr => bx_cell (HBf.out wr HB2.out 8 _ rfl) p
            have f9 := fun p : Bx wr => bx_cell (HBf.out wr HB2.out 9 _ rfl) p
            have f10 := fun p : Bx wr => bx_cell (HBf.out wr HB2.out 10 _ rfl) p
            cases q1
            · have hq : lo2 = lo := by rw [HStep.out]; simp
              subst hq
              clear HStep HL2 HBe HBf HBe0 HBf0 hij
              go_wp2_with fail
              refine wp_region_bx (by kernel_rfl) (by kernel_rfl) ?_
              repeat (first | go_big_quiet_step (first | (with_reducible exact Calls.bx (HL1.out _))) | quiet_step (first | (with_reducible exact Calls.bx (HL1.out _))))
              refine wpQuiet_nil ?_
              intro _ hw'
              obtain ⟨g9, hw''⟩ := hw'
              subst hw'' 
              have hb9 := g9.h
              generalize g9.w = w3 at hb9 ⊢
              clear g9
              have HB3 := Lib.hid (bstep HB2.out hb9 HB2.out.size)
              have HC3 := Lib.hid (bstep HC2.out hb9 HC2.out.size)
              clear hb9 HB2 HC2
              clear e0 f0 e1 f1 e2 f2 e3 f3 e4 f4 e5 f5 e6 f6 e7 f7 e8 f8 e9 f9 e10 f10
              go_wp2
              go_roundg (n - (j + 1))
              case measure => omega
              case rel => exact ⟨j + 1, by omega, by omega, by go_num, by rw [HLo.out], HB3.out, HC3.out⟩
            · rw [Bool.not_true, Bool.false_or] at HStep
              go_wp2_with fail
              refine wp_region_bx (by kernel_rfl) (by kernel_rfl) ?_
              repeat (first | go_big_quiet_step (first | (with_reducible exact Calls.bx (HL1.out _))) | quiet_step (first | (with_reducible exact Calls.bx (HL1.out _))))
              refine wpQuiet_nil ?_
              intro _ hw'
              obtain ⟨g9, hw''⟩ := hw'
              subst hw'' 
              have hb9 := g9.h
              generalize g9.w = w3 at hb9 ⊢
              clear g9
              have HB3 := Lib.hid (bstep HB2.out hb9 HB2.out.size)
              have HC3 := Lib.hid (bstep HC2.out hb9 HC2.out.size)
              clear hb9 HB2 HC2
              clear e0 f0 e1 f1 e2 f2 e3 f3 e4 f4 e5 f5 e6 f6 e7 f7 e8 f8 e9 f9 e10 f10
              clear HL1
              have e0 := fun p : Bx w3 => bx_cell (HBe0.out w3 HB3.out) p
              have e1 := fun p : Bx w3 => bx_cell (HBe.out w3 HB3.out 1 _ rfl) p
              have e2 := fun p : Bx w3 => bx_cell (HBe.out w3 HB3.out 2 _ rfl) p
              have e3 := fun p : Bx w3 => bx_cell (HBe.out w3 HB3.out 3 _ rfl) p
              have e4 := fun p : Bx w3 => bx_cell (HBe.out w3 HB3.out 4 _ rfl) p
              have e5 := fun p : Bx w3 => bx_cell (HBe.out w3 HB3.out 5 _ rfl) p
              have e6 := fun p : Bx w3 => bx_cell (HBe.out w3 HB3.out 6 _ rfl) p
              have e7 := fun p : Bx w3 => bx_cell (HBe.out w3 HB3.out 7 _ rfl) p
              have e8 := fun p : Bx w3 => bx_cell (HBe.out w3 HB3.out 8 _ rfl) p
              have e9 := fun p : Bx w3 => bx_cell (HBe.out w3 HB3.out 9 _ rfl) p
              have e10 := fun p : Bx w3 => bx_cell (HBe.out w3 HB3.out 10 _ rfl) p
              have f0 := fun p : Bx w3 => bx_cell (HBf0.out w3 HB3.out) p
              have f1 := fun p : Bx w3 => bx_cell (HBf.out w3 HB3.out 1 _ rfl) p
              have f2 := fun p : Bx w3 => bx_cell (HBf.out w3 HB3.out 2 _ rfl) p
              have f3 := fun p : Bx w3 => bx_cell (HBf.out w3 HB3.out 3 _ rfl) p
              have f4 := fun p : Bx w3 => bx_cell (HBf.out w3 HB3.out 4 _ rfl) p
              have f5 := fun p : Bx w3 => bx_cell (HBf.out w3 HB3.out 5 _ rfl) p
              have f6 := fun p : Bx w3 => bx_cell (HBf.out w3 HB3.out 6 _ rfl) p
              have f7 := fun p : Bx w3 => bx_cell (HBf.out w3 HB3.out 7 _ rfl) p
              have f8 := fun p : Bx w3 => bx_cell (HBf.out w3 HB3.out 8 _ rfl) p
              have f9 := fun p : Bx w3 => bx_cell (HBf.out w3 HB3.out 9 _ rfl) p
              have f10 := fun p : Bx w3 => bx_cell (HBf.out w3 HB3.out 10 _ rfl) p
              cases q2
              · have hq : lo2 = false := by rw [HStep.out]; simp
                subst hq
                clear HStep hij
                go_wp2_with fail
                refine wp_region_bx (by kernel_rfl) (by kernel_rfl) ?_
                repeat (first | go_big_quiet_step (first | (with_reducible exact Calls.bx (HL2.out _))) | quiet_step (first | (with_reducible exact Calls.bx (HL2.out _))))
                refine wpQuiet_nil ?_
                intro _ hw'
                obtain ⟨g9, hw''⟩ := hw'
                subst hw'' 
                have hb9 := g9.h
                generalize g9.w = w4 at hb9 ⊢
                clear g9
                have HB4 := Lib.hid (bstep HB3.out hb9 HB3.out.size)
                have HC4 := Lib.hid (bstep HC3.out hb9 HC3.out.size)
                clear hb9 HB3 HC3
                clear e0 f0 e1 f1 e2 f2 e3 f3 e4 f4 e5 f5 e6 f6 e7 f7 e8 f8 e9 f9 e10 f10
                go_wp2
                go_roundg (n - (j + 1))
                case measure => omega
                case rel => exact ⟨j + 1, by omega, by omega, by go_num, by rw [HLo.out], HB4.out, HC4.out⟩
              · by_cases hji : j < i
                · have hjiz : (j : Int) < (i : Int) := by omega
                  have hq : lo2 = false := by rw [HStep.out, decide_eq_true hji]; simp
                  subst hq
                  clear HStep hij
                  go_wp2_with fail
                  refine wp_region_bx (by kernel_rfl) (by kernel_rfl) ?_
                  repeat (first | go_big_quiet_step (first | (with_reducible exact Calls.bx (HL2.out _))) | quiet_step (first | (with_reducible exact Calls.bx (HL2.out _))))
                  refine wpQuiet_nil ?_
                  intro _ hw'
                  obtain ⟨g9, hw''⟩ := hw'
                  subst hw'' 
                  have hb9 := g9.h
                  generalize g9.w = w4 at hb9 ⊢
                  clear g9
                  have HB4 := Lib.hid (bstep HB3.out hb9 HB3.out.size)
                  have HC4 := Lib.hid (bstep HC3.out hb9 HC3.out.size)
                  clear hb9 HB3 HC3
                  clear e0 f0 e1 f1 e2 f2 e3 f3 e4 f4 e5 f5 e6 f6 e7 f7 e8 f8 e9 f9 e10 f10
                  go_wp2
                  go_roundg (n - (j + 1))
                  case measure => omega
                  case rel => exact ⟨j + 1, by omega, by omega, by go_num, by rw [HLo.out], HB4.out, HC4.out⟩
                · have hjiz : ¬ (j : Int) < (i : Int) := by omega
                  have hq : lo2 = lo := by rw [HStep.out, decide_eq_false hji]; simp
                  subst hq
                  clear HStep hij
                  go_wp2_with fail
                  refine wp_region_bx (by kernel_rfl) (by kernel_rfl) ?_
                  repeat (first | go_big_quiet_step (first | (with_reducible exact Calls.bx (HL2.out _))) | quiet_step (first | (with_reducible exact Calls.bx (HL2.out _))))
                  refine wpQuiet_nil ?_
                  intro _ hw'
                  obtain ⟨g9, hw''⟩ := hw'
                  subst hw'' 
                  have hb9 := g9.h
                  generalize g9.w = w4 at hb9 ⊢
                  clear g9
                  have HB4 := Lib.hid (bstep HB3.out hb9 HB3.out.size)
                  have HC4 := Lib.hid (bstep HC3.out hb9 HC3.out.size)
                  clear hb9 HB3 HC3
                  clear e0 f0 e1 f1 e2 f2 e3 f3 e4 f4 e5 f5 e6 f6 e7 f7 e8 f8 e9 f9 e10 f10
                  go_wp2
                  go_roundg (n - (j + 1))
                  case measure => omega
                  case rel => exact ⟨j + 1, by omega, by omega, by go_num, by rw [HLo.out], HB4.out, HC4.out⟩
        · have hljz : ¬ (j : Int) < (n : Int) := by omega
          obtain rfl : j = n := by omega
          have hst := HS.out i
          rw [HY.out] at hst
          have hle := HLn.out i
          have HO2 := Lib.hid (HO1.out.below HC2.out)
          have E2 : elemL wr ⟨b, off + i * 11, none⟩ 0 11 = some (HV.enc y) := HEi.out _ HB2.out
          generalize lowTo xs i j = lo at *
          clear HT HT0i HLE HLn HR HE HEi HS HP H0 HF HT0 HN HBe HY HO1 HC2 HB1
          cases lo
          · rw [if_neg (by simp), List.append_nil] at hst
            rw [← hst] at HO2
            have HO3 := HO2
            clear hst hle E2 HO2
            go_wp2
            go_roundg (j - (i + 1))
            case measure => omega
            case rel => exact ⟨i + 1, by omega, by omega, by go_num, HB2.out, HO3.out⟩
          · rw [if_pos rfl] at hst
            have HST := Lib.hid hst
            have HBB := Lib.hid HB2.out.size
            have hlen : ((leastK xs i).length + 1) * RHp.bytes ≤ 140737488355328 := by
              have : ((leastK xs i).length + 1) * 88 ≤ 1500000000001 * 88 := Nat.mul_le_mul_right _ (by omega)
              exact Nat.le_trans this (by decide)
            have HLen := Lib.hid hlen
            clear hst hle hlen
            go_wp2_with (at_builtin; refine RowKind.Own.pushL (R := RHp) (y := y) HO2.out HB2.out HBB.out (by decide) rfl _ _ rfl rfl _ rfl HLen.out (Nat.le_refl _) ?_; intro v5 w5 hO5 hB5 hz5; have HO5 := Lib.hid hO5; have HB5 := Lib.hid hB5; clear hO5 hB5 hz5)
            have HO6 : Hid (RHp.Own w.heap.size w5 v5 (leastK xs (i + 1))) := by rw [HST.out]; exact HO5
            clear HO5 HST
            go_roundg (j - (i + 1))
            case measure => omega
            case rel => exact ⟨i + 1, by omega, by omega, by go_num, HB5.out, HO6.out⟩
    · have hlz : ¬ (i : Int) < (n : Int) := by omega
      obtain rfl : i = n := by omega
      have HO2 := HO
      rw [HF.out] at HO2
      clear HT HT0 HLE HLn HR HE HS HP H0 HF HN HO
      go_wp2
      go_returns
      exact ⟨_, rfl, HO2.out, HB.out⟩
set_option maxHeartbeats 2000000 in
theorem rleast_nil (p : Option Addr) (cap : Nat) (w : World) : Calls Try.prog 13 #[.slice p 0 cap] w (RHp.Made (leastH []) w) := by
  have HO : Hid (RHp.Own w.heap.size w (.slice none 0 0) (leastH [])) := RowKind.Own.nil _ _ _
  go_enter Try.func13, Try.ntmps13
  go_wp2
  refine wp_loop_rounds 1 ?_
  rw [rounds_succ]
  go_wp2
  go_returns
  exact ⟨_, rfl, HO.out, Below.refl _ _⟩
theorem rleast_any (xs : List HV) (v : Value) (w : World) (hl : xs.length ≤ 1500000000000) (hv : RHp.Is w v xs) : Calls Try.prog 13 #[v] w (RHp.Made (leastH xs) w) := by
  rcases hv with ⟨rfl, p, cap, rfl, _⟩ | ⟨_, b, off, cap, rfl, hb, hr⟩
  · exact rleast_nil p cap w
  · exact rleast_row xs b off cap w hl hb hr
end Go.Proofs.Ytedjbklejdcknaa
