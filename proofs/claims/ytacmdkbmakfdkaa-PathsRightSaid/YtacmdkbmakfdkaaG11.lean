/- the document's Least on steps -/
import Derived.Test.YtacmdkbmakfdkaaG10
import Derived.Test.YtacmdkbmakfdkaaG05
namespace Go.Proofs.Ytacmdkbmakfdkaa
open Go.RowKit
set_option linter.unusedVariables false
set_option linter.unusedSimpArgs false
attribute [local go_sem ↓] loadHs
attribute [local simp] size_setRow
attribute [local go_sem] rowAt_head rowOf_alloc_at rowOf_alloc_past rowOf_drew rowOf_drewN rowOf_setRow_same rowOf_setRow_other rowOf_setCell_same rowOf_setCell_other size_setRow setRow_drew setRow_alloc_at setRow_alloc_past one_int one_bool cell_setRow_same cell_setRow_other frozen_setRow_same frozen_setRow_other
attribute [local go_sem ↓] run_imin
attribute [local go_sem] HV.enc

/-- is the i-th of them low, as far as the first k tell? -/
def lowTo (l : List HV) (i k : Nat) : Bool := (l[i]!).rightB && (List.range k).all fun j => decide (j = i) || (!leH l[j]! l[i]! || (leH l[i]! l[j]! && !decide (j < i)))
def leastK (l : List HV) (m : Nat) : List HV := ((List.range m).filter fun i => lowTo l i l.length).map fun i => l[i]!
/-- the lowest of some steps -/
def leastH (l : List HV) : List HV := leastK l l.length
theorem lowTo_step (l : List HV) (i k : Nat) : lowTo l i (k + 1) = (lowTo l i k && (decide (k = i) || (!leH l[k]! l[i]! || (leH l[i]! l[k]! && !decide (k < i))))) := by
  unfold lowTo
  rw [List.range_succ, List.all_append, Bool.and_assoc]
  congr 1
  simp
theorem leastK_step (l : List HV) (m : Nat) : leastK l (m + 1) = leastK l m ++ (if lowTo l m l.length = true then [l[m]!] else []) := by
  unfold leastK
  rw [List.range_succ, List.filter_append, List.map_append]
  congr 1
  simp only [List.filter_cons, List.filter_nil]
  split <;> simp_all
theorem leastK_len (l : List HV) (m : Nat) : (leastK l m).length ≤ m := by
  unfold leastK
  rw [List.length_map]
  exact Nat.le_trans (List.length_filter_le _ _) (by rw [List.length_range]; exact Nat.le_refl _)
set_option maxRecDepth 100000 in
set_option maxHeartbeats 16000000 in
theorem rleast_row (xs : List HV) (b off cap : Nat) (w : World) (hl : xs.length ≤ 1500000000000) (hb : b < w.heap.size) (hr : RHp.Row w b off xs) :
    Calls Try.prog 20 #[.slice (some ⟨b, off, none⟩) xs.length cap] w (RHp.Made (leastH xs) w) := by
  have HR := Lib.hid hr
  have HE : Hid (∀ W, Below w.heap.size w W → ∀ j, j < xs.length → elemL W ⟨b, off + j * 11, none⟩ 0 11 = some (HV.enc xs[j]!)) := fun W hW j hj => hop_elem hr hb hW j hj
  have HS := Lib.hid (leastK_step xs)
  have HT := Lib.hid (fun i k => lowTo_step xs i k)
  have HLn := Lib.hid (leastK_len xs)
  have HP := Lib.hid (fun (x : HV) W => parts_any x W)
  have H0 : Hid (leastK xs 0 = []) := rfl
  have HF : Hid (leastK xs xs.length = leastH xs) := rfl
  have HLE : Hid (∀ (x y : HV) (W : World), Calls Try.prog 47 #[x.val, y.val] W (Ret (.bool (leH x y)) W)) := fun x y W => docLe_is x y W
  have HT0 : Hid (∀ i, lowTo xs i 0 = (xs[i]!).rightB) := fun i => by unfold lowTo; simp
  clear hr
  generalize hF : leastH xs = F at *
  clear hF
  generalize hn : xs.length = n at *
  have HN := Lib.hid hn
  clear hn
  go_enter Try.func20, Try.ntmps20
  go_wp2
  go_loopg [4, 3] n (fun gg i v wr => ∃ k : Nat, k ≤ n ∧ n - k ≤ gg ∧ i = .int .i64 (k : Int) ∧ Hid (Below w.heap.size w wr) ∧ Hid (RHp.Own w.heap.size wr v (leastK xs k)))
  case atStart => exact ⟨0, Nat.zero_le _, by omega, rfl, Below.refl _ _, by rw [H0.out]; exact RowKind.Own.nil _ _ _⟩
  case round =>
    obtain ⟨i, hin, hg, rfl, HB, HO⟩ := hrel
    by_cases hlt : i < n
    · have hlz : (i : Int) < (n : Int) := by omega
      have hix : i < xs.length := by rw [HN.out]; exact hlt
      have HPi := Lib.hid (HP.out xs[i]!)
      have HT0i := Lib.hid (HT0.out i)
      have HEi := Lib.hid (fun W hW => HE.out W hW i hlt)
      obtain ⟨wo, rfl⟩ : ∃ wo : World, wo = wr := ⟨_, rfl⟩
      have E1 : elemL wo ⟨b, off + i * 11, none⟩ 0 11 = some (HV.enc xs[i]!) := HEi.out _ HB.out
      have HBe : Hid (∀ W (hW : Below w.heap.size w W) (q : Nat) (u : Value), (HV.enc xs[i]!)[q]? = some u → W.cell? ⟨b, off + i * 11 + q, none⟩ = some u) := fun W hW q u hu => hop_at HR.out hb hW i hix q hu
      generalize hy : xs[i]! = y at *
      have HY := Lib.hid hy
      clear hy
      go_wp2_with fail
      refine (HPi.out _).mono ?_
      rintro e w1 hp
      unfold PartsR at hp
      obtain ⟨v1, rfl, hv1, hb1⟩ := hp
      have HB1 := Lib.hid (bstep HB.out hb1 HB.out.size)
      have HO1 := Lib.hid (HO.out.below hb1)
      clear hb1 hv1 HB HO HPi E1
      go_wp2_with fail
      go_loopg [7, 6] n (fun gg kk lw wr => ∃ j : Nat, j ≤ n ∧ n - j ≤ gg ∧ kk = .int .i64 (j : Int) ∧ lw = .bool (lowTo xs i j) ∧ Hid (Below w.heap.size w wr) ∧ Hid (Below w1.heap.size w1 wr))
      case atStart => exact ⟨0, Nat.zero_le _, by omega, rfl, by rw [HT0i.out], HB1.out, Below.refl _ _⟩
      case round =>
        obtain ⟨j, hjn, hg2, rfl, rfl, HB2, HC2⟩ := hrel
        by_cases hlj : j < n
        · have hljz : (j : Int) < (n : Int) := by omega
          have hjx : j < xs.length := by rw [HN.out]; exact hlj
          have HStep := Lib.hid (HT.out i j)
          have HBe0 : Hid (∀ W (hW : Below w.heap.size w W), W.cell? ⟨b, off + i * 11, none⟩ = some (.int .i64 y.f)) := fun W hW => HBe.out W hW 0 _ rfl
          have HBf : Hid (∀ W (hW : Below w.heap.size w W) (q : Nat) (u : Value), (HV.enc xs[j]!)[q]? = some u → W.cell? ⟨b, off + j * 11 + q, none⟩ = some u) := fun W hW q u hu => hop_at HR.out hb hW j hjx q hu
          have HL1 := Lib.hid (HLE.out xs[j]! y)
          have HL2 := Lib.hid (HLE.out y xs[j]!)
          have hyy := HY.out
          rw [HY.out] at HStep
          generalize xs[j]! = z at *
          have HBf0 : Hid (∀ W (hW : Below w.heap.size w W), W.cell? ⟨b, off + j * 11, none⟩ = some (.int .i64 z.f)) := fun W hW => HBf.out W hW 0 _ rfl
          generalize lowTo xs i j = lo at *
          generalize hlo2 : lowTo xs i (j + 1) = lo2 at *
          have HLo := Lib.hid hlo2
          clear hlo2
          generalize leH z y = q1 at *
          generalize leH y z = q2 at *
          clear hyy hjx hix HY HT HT0i HLE HLn HR HE HEi HS HP H0 HF HT0 HN
          by_cases hij : j = i
          · have hq : lo2 = lo := by rw [HStep.out, decide_eq_true hij]; simp
            subst hq
            have hijb : ((j : Int) == (i : Int)) = true := by simp; omega
            clear HStep HL1 HL2 HBe HBf HBe0 HBf0 hij
            go_wp2_with fail
            refine wp_region_bx (by kernel_rfl) (by kernel_rfl) ?_
            repeat (first | go_big_quiet_step (first | fail) | quiet_step (first | fail))
            refine wpQuiet_nil ?_
            intro _ hw'
            obtain ⟨g9, hw''⟩ := hw'
            subst hw'' 
            have hb9 := g9.h
            generalize g9.w = w3 at hb9 ⊢
            clear g9
            have HB3 := Lib.hid (bstep HB2.out hb9 HB2.out.size)
            have HC3 := Lib.hid (bstep HC2.out hb9 HC2.out.size)
            clear hb9 HB2 HC2
            go_wp2
            go_roundg (n - (j + 1))
            case measure => omega
            case rel => exact ⟨j + 1, by omega, by omega, by go_num, by rw [HLo.out], HB3.out, HC3.out⟩
          · have hijb : ((j : Int) == (i : Int)) = false := by simp; omega
            rw [decide_eq_false hij, Bool.false_or] at HStep
            have e0 := fun p : Bx wr => bx_cell (HBe0.out wr HB2.out) p
            have e1 := fun p : Bx wr => bx_cell (HBe.out wr HB2.out 1 _ rfl) p
            have e2 := fun p : Bx wr => bx_cell (HBe.out wr HB2.out 2 _ rfl) p
            have e3 := fun p : Bx wr => bx_cell (HBe.out wr HB2.out 3 _ rfl) p
            have e4 := fun p : Bx wr => bx_cell (HBe.out wr HB2.out 4 _ rfl) p
            have e5 := fun p : Bx wr => bx_cell (HBe.out wr HB2.out 5 _ rfl) p
            have e6 := fun p : Bx wr => bx_cell (HBe.out wr HB2.out 6 _ rfl) p
            have e7 := fun p : Bx wr => bx_cell (HBe.out wr HB2.out 7 _ rfl) p
            have e8 := fun p : Bx wr => bx_cell (HBe.out wr HB2.out 8 _ rfl) p
            have e9 := fun p : Bx wr => bx_cell (HBe.out wr HB2.out 9 _ rfl) p
            have e10 := fun p : Bx wr => bx_cell (HBe.out wr HB2.out 10 _ rfl) p
            have f0 := fun p : Bx wr => bx_cell (HBf0.out wr HB2.out) p
            have f1 := fun p : Bx wr => bx_cell (HBf.out wr HB2.out 1 _ rfl) p
            have f2 := fun p : Bx wr => bx_cell (HBf.out wr HB2.out 2 _ rfl) p
            have f3 := fun p : Bx wr => bx_cell (HBf.out wr HB2.out 3 _ rfl) p
            have f4 := fun p : Bx wr => bx_cell (HBf.out wr HB2.out 4 _ rfl) p
            have f5 := fun p : Bx wr => bx_cell (HBf.out wr HB2.out 5 _ rfl) p
            have f6 := fun p : Bx wr => bx_cell (HBf.out wr HB2.out 6 _ rfl) p
            have f7 := fun p : Bx wr => bx_cell (HBf.out wr HB2.out 7 _ rfl) p
            have f8 := fun p : Bx wr => bx_cell (HBf.out wr HB2.out 8 _ rfl) p
            have f9 := fun p : Bx wr => bx_cell (HBf.out wr HB2.out 9 _ rfl) p
            have f10 := fun p : Bx wr => bx_cell (HBf.out wr HB2.out 10 _ rfl) p
            cases q1
            · have hq : lo2 = lo := by rw [HStep.out]; simp
              subst hq
              clear HStep HL2 HBe HBf HBe0 HBf0 hij
              go_wp2_with fail
              refine wp_region_bx (by kernel_rfl) (by kernel_rfl) ?_
              repeat (first | go_big_quiet_step (first | (with_reducible exact Calls.bx (HL1.out _))) | quiet_step (first | (with_reducible exact Calls.bx (HL1.out _))))
              refine wpQuiet_nil ?_
              intro _ hw'
              obtain ⟨g9, hw''⟩ := hw'
              subst hw'' 
              have hb9 := g9.h
              generalize g9.w = w3 at hb9 ⊢
              clear g9
              have HB3 := Lib.hid (bstep HB2.out hb9 HB2.out.size)
              have HC3 := Lib.hid (bstep HC2.out hb9 HC2.out.size)
              clear hb9 HB2 HC2
              clear e0 f0 e1 f1 e2 f2 e3 f3 e4 f4 e5 f5 e6 f6 e7 f7 e8 f8 e9 f9 e10 f10
              go_wp2
              go_roundg (n - (j + 1))
              case measure => omega
              case rel => exact ⟨j + 1, by omega, by omega, by go_num, by rw [HLo.out], HB3.out, HC3.out⟩
            · rw [Bool.not_true, Bool.false_or] at HStep
              go_wp2_with fail
              refine wp_region_bx (by kernel_rfl) (by kernel_rfl) ?_
              repeat (first | go_big_quiet_step (first | (with_reducible exact Calls.bx (HL1.out _))) | quiet_step (first | (with_reducible exact Calls.bx (HL1.out _))))
              refine wpQuiet_nil ?_
              intro _ hw'
              obtain ⟨g9, hw''⟩ := hw'
              subst hw'' 
              have hb9 := g9.h
              generalize g9.w = w3 at hb9 ⊢
              clear g9
              have HB3 := Lib.hid (bstep HB2.out hb9 HB2.out.size)
              have HC3 := Lib.hid (bstep HC2.out hb9 HC2.out.size)
              clear hb9 HB2 HC2
              clear e0 f0 e1 f1 e2 f2 e3 f3 e4 f4 e5 f5 e6 f6 e7 f7 e8 f8 e9 f9 e10 f10
              clear HL1
              have e0 := fun p : Bx w3 => bx_cell (HBe0.out w3 HB3.out) p
              have e1 := fun p : Bx w3 => bx_cell (HBe.out w3 HB3.out 1 _ rfl) p
              have e2 := fun p : Bx w3 => bx_cell (HBe.out w3 HB3.out 2 _ rfl) p
              have e3 := fun p : Bx w3 => bx_cell (HBe.out w3 HB3.out 3 _ rfl) p
              have e4 := fun p : Bx w3 => bx_cell (HBe.out w3 HB3.out 4 _ rfl) p
              have e5 := fun p : Bx w3 => bx_cell (HBe.out w3 HB3.out 5 _ rfl) p
              have e6 := fun p : Bx w3 => bx_cell (HBe.out w3 HB3.out 6 _ rfl) p
              have e7 := fun p : Bx w3 => bx_cell (HBe.out w3 HB3.out 7 _ rfl) p
              have e8 := fun p : Bx w3 => bx_cell (HBe.out w3 HB3.out 8 _ rfl) p
              have e9 := fun p : Bx w3 => bx_cell (HBe.out w3 HB3.out 9 _ rfl) p
              have e10 := fun p : Bx w3 => bx_cell (HBe.out w3 HB3.out 10 _ rfl) p
              have f0 := fun p : Bx w3 => bx_cell (HBf0.out w3 HB3.out) p
              have f1 := fun p : Bx w3 => bx_cell (HBf.out w3 HB3.out 1 _ rfl) p
              have f2 := fun p : Bx w3 => bx_cell (HBf.out w3 HB3.out 2 _ rfl) p
              have f3 := fun p : Bx w3 => bx_cell (HBf.out w3 HB3.out 3 _ rfl) p
              have f4 := fun p : Bx w3 => bx_cell (HBf.out w3 HB3.out 4 _ rfl) p
              have f5 := fun p : Bx w3 => bx_cell (HBf.out w3 HB3.out 5 _ rfl) p
              have f6 := fun p : Bx w3 => bx_cell (HBf.out w3 HB3.out 6 _ rfl) p
              have f7 := fun p : Bx w3 => bx_cell (HBf.out w3 HB3.out 7 _ rfl) p
              have f8 := fun p : Bx w3 => bx_cell (HBf.out w3 HB3.out 8 _ rfl) p
              have f9 := fun p : Bx w3 => bx_cell (HBf.out w3 HB3.out 9 _ rfl) p
              have f10 := fun p : Bx w3 => bx_cell (HBf.out w3 HB3.out 10 _ rfl) p
              cases q2
              · have hq : lo2 = false := by rw [HStep.out]; simp
                subst hq
                clear HStep hij
                go_wp2_with fail
                refine wp_region_bx (by kernel_rfl) (by kernel_rfl) ?_
                repeat (first | go_big_quiet_step (first | (with_reducible exact Calls.bx (HL2.out _))) | quiet_step (first | (with_reducible exact Calls.bx (HL2.out _))))
                refine wpQuiet_nil ?_
                intro _ hw'
                obtain ⟨g9, hw''⟩ := hw'
                subst hw'' 
                have hb9 := g9.h
                generalize g9.w = w4 at hb9 ⊢
                clear g9
                have HB4 := Lib.hid (bstep HB3.out hb9 HB3.out.size)
                have HC4 := Lib.hid (bstep HC3.out hb9 HC3.out.size)
                clear hb9 HB3 HC3
                clear e0 f0 e1 f1 e2 f2 e3 f3 e4 f4 e5 f5 e6 f6 e7 f7 e8 f8 e9 f9 e10 f10
                go_wp2
                go_roundg (n - (j + 1))
                case measure => omega
                case rel => exact ⟨j + 1, by omega, by omega, by go_num, by rw [HLo.out], HB4.out, HC4.out⟩
              · by_cases hji : j < i
                · have hjiz : (j : Int) < (i : Int) := by omega
                  have hq : lo2 = false := by rw [HStep.out, decide_eq_true hji]; simp
                  subst hq
                  clear HStep hij
                  go_wp2_with fail
                  refine wp_region_bx (by kernel_rfl) (by kernel_rfl) ?_
                  repeat (first | go_big_quiet_step (first | (with_reducible exact Calls.bx (HL2.out _))) | quiet_step (first | (with_reducible exact Calls.bx (HL2.out _))))
                  refine wpQuiet_nil ?_
                  intro _ hw'
                  obtain ⟨g9, hw''⟩ := hw'
                  subst hw'' 
                  have hb9 := g9.h
                  generalize g9.w = w4 at hb9 ⊢
                  clear g9
                  have HB4 := Lib.hid (bstep HB3.out hb9 HB3.out.size)
                  have HC4 := Lib.hid (bstep HC3.out hb9 HC3.out.size)
                  clear hb9 HB3 HC3
                  clear e0 f0 e1 f1 e2 f2 e3 f3 e4 f4 e5 f5 e6 f6 e7 f7 e8 f8 e9 f9 e10 f10
                  go_wp2
                  go_roundg (n - (j + 1))
                  case measure => omega
                  case rel => exact ⟨j + 1, by omega, by omega, by go_num, by rw [HLo.out], HB4.out, HC4.out⟩
                · have hjiz : ¬ (j : Int) < (i : Int) := by omega
                  have hq : lo2 = lo := by rw [HStep.out, decide_eq_false hji]; simp
                  subst hq
                  clear HStep hij
                  go_wp2_with fail
                  refine wp_region_bx (by kernel_rfl) (by kernel_rfl) ?_
                  repeat (first | go_big_quiet_step (first | (with_reducible exact Calls.bx (HL2.out _))) | quiet_step (first | (with_reducible exact Calls.bx (HL2.out _))))
                  refine wpQuiet_nil ?_
                  intro _ hw'
                  obtain ⟨g9, hw''⟩ := hw'
                  subst hw'' 
                  have hb9 := g9.h
                  generalize g9.w = w4 at hb9 ⊢
                  clear g9
                  have HB4 := Lib.hid (bstep HB3.out hb9 HB3.out.size)
                  have HC4 := Lib.hid (bstep HC3.out hb9 HC3.out.size)
                  clear hb9 HB3 HC3
                  clear e0 f0 e1 f1 e2 f2 e3 f3 e4 f4 e5 f5 e6 f6 e7 f7 e8 f8 e9 f9 e10 f10
                  go_wp2
                  go_roundg (n - (j + 1))
                  case measure => omega
                  case rel => exact ⟨j + 1, by omega, by omega, by go_num, by rw [HLo.out], HB4.out, HC4.out⟩
        · have hljz : ¬ (j : Int) < (n : Int) := by omega
          obtain rfl : j = n := by omega
          have hst := HS.out i
          rw [HY.out] at hst
          have hle := HLn.out i
          have HO2 := Lib.hid (HO1.out.below HC2.out)
          have E2 : elemL wr ⟨b, off + i * 11, none⟩ 0 11 = some (HV.enc y) := HEi.out _ HB2.out
          generalize lowTo xs i j = lo at *
          clear HT HT0i HLE HLn HR HE HEi HS HP H0 HF HT0 HN HBe HY HO1 HC2 HB1
          cases lo
          · rw [if_neg (by simp), List.append_nil] at hst
            rw [← hst] at HO2
            have HO3 := HO2
            clear hst hle E2 HO2
            go_wp2
            go_roundg (j - (i + 1))
            case measure => omega
            case rel => exact ⟨i + 1, by omega, by omega, by go_num, HB2.out, HO3.out⟩
          · rw [if_pos rfl] at hst
            have HST := Lib.hid hst
            have HBB := Lib.hid HB2.out.size
            have hlen : ((leastK xs i).length + 1) * RHp.bytes ≤ 140737488355328 := by
              have : ((leastK xs i).length + 1) * 88 ≤ 1500000000001 * 88 := Nat.mul_le_mul_right _ (by omega)
              exact Nat.le_trans this (by decide)
            have HLen := Lib.hid hlen
            clear hst hle hlen
            go_wp2_with (at_builtin; refine RowKind.Own.pushL (R := RHp) (y := y) HO2.out HB2.out HBB.out (by decide) rfl _ _ rfl rfl _ rfl HLen.out (Nat.le_refl _) ?_; intro v5 w5 hO5 hB5 hz5; have HO5 := Lib.hid hO5; have HB5 := Lib.hid hB5; clear hO5 hB5 hz5)
            have HO6 : Hid (RHp.Own w.heap.size w5 v5 (leastK xs (i + 1))) := by rw [HST.out]; exact HO5
            clear HO5 HST
            go_roundg (j - (i + 1))
            case measure => omega
            case rel => exact ⟨i + 1, by omega, by omega, by go_num, HB5.out, HO6.out⟩
    · have hlz : ¬ (i : Int) < (n : Int) := by omega
      obtain rfl : i = n := by omega
      have HO2 := HO
      rw [HF.out] at HO2
      clear HT HT0 HLE HLn HR HE HS HP H0 HF HN HO
      go_wp2
      go_returns
      exact ⟨_, rfl, HO2.out, HB.out⟩
set_option maxHeartbeats 2000000 in
theorem rleast_nil (p : Option Addr) (cap : Nat) (w : World) : Calls Try.prog 20 #[.slice p 0 cap] w (RHp.Made (leastH []) w) := by
  have HO : Hid (RHp.Own w.heap.size w (.slice none 0 0) (leastH [])) := RowKind.Own.nil _ _ _
  go_enter Try.func20, Try.ntmps20
  go_wp2
  refine wp_loop_rounds 1 ?_
  rw [rounds_succ]
  go_wp2
  go_returns
  exact ⟨_, rfl, HO.out, Below.refl _ _⟩
theorem rleast_any (xs : List HV) (v : Value) (w : World) (hl : xs.length ≤ 1500000000000) (hv : RHp.Is w v xs) : Calls Try.prog 20 #[v] w (RHp.Made (leastH xs) w) := by
  rcases hv with ⟨rfl, p, cap, rfl, _⟩ | ⟨_, b, off, cap, rfl, hb, hr⟩
  · exact rleast_nil p cap w
  · exact rleast_row xs b off cap w hl hb hr
end Go.Proofs.Ytacmdkbmakfdkaa
/- plain: the order of steps, steps put together, lowest steps of a set -/
namespace Go.Proofs.Ytacmdkbmakfdkaa
open Go.RowKit
set_option linter.unusedVariables false
set_option linter.unusedSimpArgs false

theorem leH_iff (a b : HV) : leH a b = true ↔ a.rightB = true ∧ b.rightB = true ∧ a.f = b.f ∧ a.k + a.t = b.k + b.t ∧ ∀ j : Nat, (j : Int) < a.k + a.t → a.at j ≤ b.at j ∧ (a.k ≤ j ∨ (j : Int) < b.k) := by
  rw [leH_eq, decide_eq_true_eq]
  constructor
  · rintro ⟨ha, hb, hf, hg, h0, h1, h2, h3⟩
    refine ⟨ha, hb, hf, hg, fun j hj => ?_⟩
    have s := right_size (shape_of ha)
    have : j = 0 ∨ j = 1 ∨ j = 2 ∨ j = 3 := by omega
    rcases this with rfl | rfl | rfl | rfl
    · exact h0 hj
    · exact h1 hj
    · exact h2 hj
    · exact h3 hj
  · rintro ⟨ha, hb, hf, hg, h⟩
    exact ⟨ha, hb, hf, hg, fun q => h 0 q, fun q => h 1 q, fun q => h 2 q, fun q => h 3 q⟩
theorem leH_k {a b : HV} (h : leH a b = true) : a.k ≤ b.k := by
  obtain ⟨ha, hb, _, hg, hj⟩ := (leH_iff a b).1 h
  have sa := right_size (shape_of ha); have sb := right_size (shape_of hb)
  by_cases q : a.k ≤ b.k
  · exact q
  · have := hj b.k.toNat (by omega)
    omega
theorem leH_self {a : HV} (h : a.rightB = true) : leH a a = true := order_self h
theorem leH_trans {a b c : HV} (h : leH a b = true) (k : leH b c = true) : leH a c = true := by
  obtain ⟨ha, hb, hf, hg, hj⟩ := (leH_iff a b).1 h
  obtain ⟨_, hc, kf, kg, kj⟩ := (leH_iff b c).1 k
  refine (leH_iff a c).2 ⟨ha, hc, hf.trans kf, hg.trans kg, fun j q => ?_⟩
  have x := hj j q
  have y := kj j (by omega)
  omega
theorem leH_anti {a b : HV} (h : leH a b = true) (k : leH b a = true) : a = b := order_one h k (by have := leH_k h; have := leH_k k; omega)

/-- a step that has no numbers beyond its places, and small ones there, is right -/
theorem right_of_at {R : HV} (ht : R.tidy) (h1 : 1 ≤ R.f) (h4 : R.f ≤ 4) (hk : R.k ≤ R.f) (hg1 : 1 ≤ R.k + R.t) (hg4 : R.k + R.t ≤ 4) (h : ∀ j : Nat, (j : Int) < R.k + R.t → 0 ≤ R.at j ∧ R.at j ≤ 1048576) : R.right := by
  obtain ⟨k0, k4, t0, z0, z1, z2, z3, y0, y1, y2, y3⟩ := ht
  have hA : ∀ j : Nat, (j : Int) < R.k → R.at j = R.add j := fun j hj => by unfold HV.at; rw [if_pos hj]
  have hT : ∀ j : Nat, (j : Int) < R.t → R.at ((R.k.toNat + j : Nat) : Int) = R.tl j := fun j hj => by unfold HV.at; rw [if_neg (by omega)]; congr 1; omega
  have A : ∀ j : Nat, (j : Int) < R.k → 0 ≤ R.add j ∧ R.add j ≤ 1048576 := fun j hj => by rw [← hA j hj]; exact h j (by omega)
  have T : ∀ j : Nat, (j : Int) < R.t → 0 ≤ R.tl j ∧ R.tl j ≤ 1048576 := fun j hj => by rw [← hT j hj]; exact h _ (by omega)
  have A0 : 0 < R.k → 0 ≤ R.a0 ∧ R.a0 ≤ 1048576 := fun q => A 0 q
  have A1 : 1 < R.k → 0 ≤ R.a1 ∧ R.a1 ≤ 1048576 := fun q => A 1 q
  have A2 : 2 < R.k → 0 ≤ R.a2 ∧ R.a2 ≤ 1048576 := fun q => A 2 q
  have A3 : 3 < R.k → 0 ≤ R.a3 ∧ R.a3 ≤ 1048576 := fun q => A 3 q
  have T0 : 0 < R.t → 0 ≤ R.b0 ∧ R.b0 ≤ 1048576 := fun q => T 0 q
  have T1 : 1 < R.t → 0 ≤ R.b1 ∧ R.b1 ≤ 1048576 := fun q => T 1 q
  have T2 : 2 < R.t → 0 ≤ R.b2 ∧ R.b2 ≤ 1048576 := fun q => T 2 q
  have T3 : 3 < R.t → 0 ≤ R.b3 ∧ R.b3 ≤ 1048576 := fun q => T 3 q
  have one : ∀ (x n i : Int), (i < n → 0 ≤ x ∧ x ≤ 1048576) → (n ≤ i → x = 0) → 0 ≤ x ∧ x ≤ 1048576 ∧ (i < n ∨ x = 0) := fun x n i p q => by
    by_cases e : i < n
    · exact ⟨(p e).1, (p e).2, .inl e⟩
    · have := q (by omega)
      exact ⟨by omega, by omega, .inr this⟩
  exact ⟨⟨h1, h4, k0, hk, t0, by omega⟩, hg1, hg4, ⟨one _ _ _ A0 z0, one _ _ _ A1 z1, one _ _ _ A2 z2, one _ _ _ A3 z3⟩, ⟨one _ _ _ T0 y0, one _ _ _ T1 y1, one _ _ _ T2 y2, one _ _ _ T3 y3⟩⟩
theorem thenOk_at (a b : HV) : thenOk a b = true ↔ a.rightB = true ∧ b.rightB = true ∧ a.k + a.t = b.f ∧ ∀ j : Nat, (j : Int) < b.k → b.at j + a.at j ≤ 1048576 := by
  rw [thenOk_iff]
  constructor
  · rintro ⟨ha, hb, hg, hr⟩
    refine ⟨ha, hb, hg, fun j hj => ?_⟩
    have ra := shape_of ha; have rb := shape_of hb
    have sb := right_size rb
    have q := at_bound (shape_of hr) j
    rw [nums_then ra rb j (by omega) (by omega), if_pos hj] at q
    exact q.2
  · rintro ⟨ha, hb, hg, h⟩
    refine ⟨ha, hb, hg, decide_eq_true ?_⟩
    have ra := shape_of ha; have rb := shape_of hb
    have sa := right_size ra; have sb := right_size rb
    have hm : 0 ≤ imin a.k b.k ∧ imin a.k b.k ≤ a.k ∧ imin a.k b.k ≤ b.k := by unfold imin; split <;> omega
    refine right_of_at (tidy_then ra rb) sa.1 sa.2.1 (show imin a.k b.k ≤ a.f by omega) (show 1 ≤ imin a.k b.k + (b.k + b.t - imin a.k b.k) by omega) (show imin a.k b.k + (b.k + b.t - imin a.k b.k) ≤ 4 by omega) (fun j hj => ?_)
    have hj2 : (j : Int) < b.k + b.t := by
      have : (j : Int) < imin a.k b.k + (b.k + b.t - imin a.k b.k) := hj
      omega
    rw [nums_then ra rb j (by omega) hj2]
    have x := at_bound ra j; have y := at_bound rb j
    split
    · rename_i q
      have := h j q
      omega
    · exact y
theorem thenV_facts {a b : HV} (o : thenOk a b = true) : (thenV a b).rightB = true ∧ (thenV a b).f = a.f ∧ (thenV a b).k = imin a.k b.k ∧ (thenV a b).k + (thenV a b).t = b.k + b.t ∧
    ∀ j : Nat, (j : Int) < b.k + b.t → (thenV a b).at j = if (j : Int) < b.k then b.at j + a.at j else b.at j := by
  obtain ⟨ha, hb, hg, hr⟩ := (thenOk_iff a b).1 o
  rw [thenV_ok o]
  exact ⟨hr, rfl, rfl, by show imin a.k b.k + (b.k + b.t - imin a.k b.k) = _; omega, fun j hj => nums_then (shape_of ha) (shape_of hb) j (by omega) hj⟩
/-- what may be put behind a step may be put behind each lower one, and is lower there -/
theorem then_lower {a b s : HV} (h : leH a b = true) (o : thenOk b s = true) : thenOk a s = true ∧ leH (thenV a s) (thenV b s) = true := by
  obtain ⟨ha, hb, hf, hg, hj⟩ := (leH_iff a b).1 h
  obtain ⟨_, hs, hgs, hn⟩ := (thenOk_at b s).1 o
  have ss := right_size (shape_of hs)
  have oa : thenOk a s = true := (thenOk_at a s).2 ⟨ha, hs, by omega, fun j hj2 => by
    have := hn j hj2
    have := hj j (by omega)
    omega⟩
  exact ⟨oa, keeps_left h oa o⟩

/-! ### lowest steps -/
/-- these are the lowest steps of a set, each once -/
structure LeastOf (S : HV → Prop) (l : List HV) : Prop where
  nodup : l.Nodup
  mem : ∀ h ∈ l, S h
  right : ∀ h ∈ l, h.rightB = true
  anti : ∀ h ∈ l, ∀ x ∈ l, leH x h = true → x = h
  cover : ∀ x, S x → ∃ h ∈ l, leH h x = true
theorem nodup_len {α : Type} [DecidableEq α] : ∀ {l m : List α}, l.Nodup → (∀ x ∈ l, x ∈ m) → l.length ≤ m.length
  | [], _, _, _ => Nat.zero_le _
  | x :: l, m, hn, h => by
    have hx : x ∈ m := h x List.mem_cons_self
    have h2 := List.nodup_cons.1 hn
    have := nodup_len (l := l) (m := m.erase x) h2.2 (fun y hy => by
      have hne : y ≠ x := fun e => h2.1 (e ▸ hy)
      exact (List.mem_erase_of_ne hne).2 (h y (List.mem_cons_of_mem _ hy)))
    rw [List.length_erase_of_mem hx] at this
    have := List.length_pos_of_mem hx
    rw [List.length_cons]
    omega
instance : DecidableEq HV := fun x y => if h : x.f = y.f ∧ x.k = y.k ∧ x.t = y.t ∧ x.a0 = y.a0 ∧ x.a1 = y.a1 ∧ x.a2 = y.a2 ∧ x.a3 = y.a3 ∧ x.b0 = y.b0 ∧ x.b1 = y.b1 ∧ x.b2 = y.b2 ∧ x.b3 = y.b3
  then isTrue (by obtain ⟨h0, h1, h2, h3, h4, h5, h6, h7, h8, h9, h10⟩ := h; exact hv_eq h0 h1 h2 h3 h4 h5 h6 h7 h8 h9 h10)
  else isFalse (fun e => h (by rw [e]; exact ⟨rfl, rfl, rfl, rfl, rfl, rfl, rfl, rfl, rfl, rfl, rfl⟩))
theorem LeastOf.sub {S : HV → Prop} {a b : List HV} (ha : LeastOf S a) (hb : LeastOf S b) : ∀ h ∈ a, h ∈ b := by
  intro h hm
  obtain ⟨x, hx, hl⟩ := hb.cover h (ha.mem h hm)
  obtain ⟨y, hy, hl2⟩ := ha.cover x (hb.mem x hx)
  have e := ha.anti h hm y hy (leH_trans hl2 hl)
  subst e
  rw [leH_anti hl2 hl]
  exact hx
theorem hasH_of {l : List HV} {h : HV} (hm : h ∈ l) (hr : h.rightB = true) : hasH l h = true :=
  List.any_eq_true.2 ⟨h, hm, by rw [leH_self hr]; rfl⟩
theorem hasH_mem {l : List HV} {h : HV} (e : hasH l h = true) : h ∈ l := by
  obtain ⟨x, hx, hq⟩ := List.any_eq_true.1 e
  rw [Bool.and_eq_true] at hq
  rw [← leH_anti hq.1 hq.2]
  exact hx
theorem mem_get {l : List HV} {i : Nat} (h : i < l.length) : l[i]! ∈ l := by rw [getElem!_pos l i h]; exact List.getElem_mem h
theorem LeastOf.like {S : HV → Prop} {a b : List HV} (ha : LeastOf S a) (hb : LeastOf S b) : likeH a b = true := by
  have hl : a.length = b.length := Nat.le_antisymm (nodup_len ha.nodup (ha.sub hb)) (nodup_len hb.nodup (hb.sub ha))
  refine (likeH_iff a b).2 ⟨hl, fun i hi => ?_⟩
  have m1 := mem_get hi
  have m2 := mem_get (l := b) (i := i) (by omega)
  exact ⟨hasH_of (ha.sub hb _ m1) (ha.right _ m1), hasH_of (hb.sub ha _ m2) (hb.right _ m2)⟩
theorem likeH_sub {a b : List HV} (h : likeH a b = true) : (∀ x ∈ a, x ∈ b) ∧ ∀ x ∈ b, x ∈ a := by
  obtain ⟨hl, h⟩ := (likeH_iff a b).1 h
  constructor
  · intro x hx
    obtain ⟨i, hi, rfl⟩ := List.mem_iff_getElem.1 hx
    have := (h i hi).1
    rw [getElem!_pos a i hi] at this
    exact hasH_mem this
  · intro x hx
    obtain ⟨i, hi, rfl⟩ := List.mem_iff_getElem.1 hx
    have := (h i (by omega)).2
    rw [getElem!_pos b i hi] at this
    exact hasH_mem this
end Go.Proofs.Ytacmdkbmakfdkaa
