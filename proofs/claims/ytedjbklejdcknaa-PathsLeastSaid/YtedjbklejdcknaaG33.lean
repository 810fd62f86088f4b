/- the program's put -/
import Derived.Test.YtedjbklejdcknaaG24
import Derived.Test.YtedjbklejdcknaaG32
namespace Go.Proofs.Ytedjbklejdcknaa
open Go.RowKit
set_option linter.unusedVariables false
set_option linter.unusedSimpArgs false
attribute [local go_sem ↓] loadH loadT storeH storeT
attribute [local simp] size_setRow
attribute [local go_sem] rowAt_head rowOf_alloc_at rowOf_alloc_past rowOf_drew rowOf_drewN rowOf_setRow_same rowOf_setRow_other rowOf_setCell_same rowOf_setCell_other size_setRow setRow_drew setRow_alloc_at setRow_alloc_past one_int one_bool cell_setRow_same cell_setRow_other frozen_setRow_same frozen_setRow_other
attribute [local go_sem ↓] run_imin

namespace RowKind
theorem Own.appendBL {α : Type} {R : RowKind α} {ops : Array Oper} {rest : List Oper} {o : Oper} {a : Act} {Q : Exit → Act → World → Prop} {w : World} (hb0 : 0 < R.bytes) (hgd : o.guard = none) (s x : Operand)
    (ho : o.op = .call { callee := .builtin .append, args := #[s, x], argTypes := #[R.tS, R.tS] }) {B : Nat} {v vx : Value} {xs : List α} (hown : R.Own B w v xs) (hs : a.eval s = v) (ys : List α)
    (hx : a.eval x = vx) (hz : R.App w vx ys) (hlen : (xs.length + ys.length) * R.bytes ≤ 140737488355328) (hbase : B ≤ w.heap.size)
    (h : ∀ v' w', R.Own B w' v' (xs ++ ys) → w.grownBy w' v.ownBlock → StaysOrNew w v v' → wpList Try.prog ops Q rest (a.put o.dst v') w') : wpList Try.prog ops Q (o :: rest) a w := by
  obtain ⟨v', w', hr, h1, h2, h3⟩ := run_appendBL hown hz hb0 hlen hbase o.type
  exact wpList_plain hgd fun _ hK => wp_of_runB ho (by rw [hs, hx]; exact hr) (hK _ _ (h v' w' h1 h2 h3))
end RowKind
/-- what put answers -/
def PutP (xs : List HV) (h : HV) (v : Value) (B : Nat) (w : World) (e : Ending) (w' : World) : Prop :=
  ∃ v', e = .returned (.tuple #[v', .bool (!putNo xs h)]) ∧ RHp.Own B w' v' (putL xs h) ∧ w.grownBy w' v.ownBlock ∧ StaysOrNew w v v'
theorem grown_alloc {w w' : World} {o : Obj} {r : Option Nat} (h : (w.alloc o).grownBy w' r) : w.grownBy w' r :=
  ⟨h.os, h.tape, h.output, Nat.le_trans (by simp) h.size, fun k hk hne => (h.block k (by simp; omega) hne).trans (Below.heap_alloc w o k hk)⟩
theorem stays_alloc {w : World} {o : Obj} {v v' : Value} (h : StaysOrNew (w.alloc o) v v') : StaysOrNew w v v' := by
  rcases h with h | h
  · exact .inl h
  · exact .inr fun k hk => by have := h k hk; simp at this; omega
theorem stays_trans {w w1 : World} {v v1 v2 : Value} (hs : w.heap.size ≤ w1.heap.size) (h : v1.ownBlock = v.ownBlock) (k : StaysOrNew w1 v1 v2) : StaysOrNew w v v2 := by
  rcases k with k | k
  · exact .inl (k.trans h)
  · exact .inr fun i hi => Nat.le_trans hs (k i hi)
set_option maxRecDepth 100000 in
set_option maxHeartbeats 16000000 in
theorem pput_any (xs : List HV) (h : HV) (B : Nat) (v : Value) (w : World) (hl : xs.length ≤ 1500000000000) (hown : RHp.Own B w v xs) (hB : B ≤ w.heap.size) :
    Calls Try.prog 26 #[v, h.val] w (PutP xs h v B w) := by
  have HR := Lib.hid (fun W => jright_is (h := h) rfl W)
  have HO := Lib.hid hown
  have hne : some w.heap.size ≠ v.ownBlock := fun e => by have := (hown.lt _ e.symm).2; omega
  have HN := Lib.hid hne
  have HC : Hid (∀ W, Below w.heap.size w W → rowOf W w.heap.size = some (hvRow h) → Calls Try.prog 35 #[v, .func (.func 52) #[] #[.pointer (some ⟨w.heap.size, 0, none⟩)]] W (Ret (.bool (xs.any fun x => leH x h)) W)) := fun W hW hr =>
    contains_any_p1 xs (fun x => leH x h) _ v W hl (hown.is.below hW) fun W' x hW' => put1_any x h _ W' (rowOf_below hr hW' (rowOf_lt hr))
  have HD : Hid (∀ W, Below w.heap.size w W → rowOf W w.heap.size = some (hvRow h) → Calls Try.prog 53 #[v, .func (.func 54) #[] #[.pointer (some ⟨w.heap.size, 0, none⟩)]] W (DelP (fun x => leH h x) xs v B W)) := fun W hW hr =>
    delete_own xs h B _ v W hl (hown.below hW) hr hne
  clear hown hne
  have HS := Lib.hid hB
  have hfl : ((xs.filter fun x => !leH h x).length + [h].length) * RHp.bytes ≤ 140737488355328 := by
    have := List.length_filter_le (fun x => !leH h x) xs
    show (_ + 1) * 88 ≤ _
    omega
  have HFL := Lib.hid hfl
  clear hfl
  cases hr : h.rightB
  · have hp : putNo xs h = true := by unfold putNo; rw [hr]; rfl
    have e1 : putL xs h = xs := by unfold putL; rw [if_pos hp]
    unfold PutP
    rw [hp, e1]
    rw [hr] at HR
    clear HC HD hr hp e1
    go_enter Try.func26, Try.ntmps26
    go_wp2_with fail
    refine (HR.out _).mono ?_
    rintro e w1 ⟨rfl, hb1⟩
    have HB1 := Lib.hid (bcall (B := w.heap.size) (a := w) (by go_grown) hb1 (by go_size))
    clear hb1
    go_wp2
    go_returns
    exact ⟨v, rfl, HO.out.below HB1.out, grown_below HB1.out _, .inl rfl⟩
  · rw [hr] at HR
    cases ha : xs.any fun x => leH x h
    · have hp : putNo xs h = false := by unfold putNo; rw [hr, ha]; rfl
      have e1 : putL xs h = (xs.filter fun x => !leH h x) ++ [h] := by unfold putL; rw [if_neg (by rw [hp]; simp)]
      unfold PutP
      rw [hp, e1]
      rw [ha] at HC
      clear hr hp e1 ha
      go_enter Try.func26, Try.ntmps26
      go_wp2_with fail
      refine (HR.out _).mono ?_
      rintro e w1 ⟨rfl, hb1⟩
      have HB1 := Lib.hid (bcall (B := w.heap.size) (a := w) (by go_grown) hb1 (by go_size))
      have HW1 : Hid (rowOf w1 w.heap.size = some (hvRow h)) := rowOf_below (rowOf_alloc_at _ _ _ rfl) hb1 (by simp)
      have hz1 : w.heap.size < w1.heap.size := rowOf_lt HW1.out
      clear hb1 HR
      go_wp2_with fail
      refine (HC.out _ HB1.out HW1.out).mono ?_
      rintro e w2 ⟨rfl, hb2⟩
      have HB2 := Lib.hid (bstep HB1.out hb2 HB1.out.size)
      have HW2 : Hid (rowOf w2 w.heap.size = some (hvRow h)) := rowOf_below HW1.out hb2 hz1
      clear hb2 HC HB1 HW1 hz1
      go_wp2_with fail
      refine (HD.out _ HB2.out HW2.out).mono ?_
      rintro e w3 ⟨v3, rfl, ho3, hk3, hg3⟩
      have HO3 := Lib.hid ho3
      have HK3 := Lib.hid hk3
      have HG3 := Lib.hid (grown_trans (grown_below HB2.out _) hg3)
      have N_b := grown_row hg3 HW2.out HN.out
      have L_b := rowOf_lt N_b
      clear ho3 hk3 hg3 HD HB2 HW2
      go_wp2_with (at_builtin; refine RowKind.Own.appendBL (R := RHp) (by decide) rfl _ _ rfl (HO3.out.alloc _) rfl [h] rfl (RowKind.Row.app (R := RHp) (RowKind.Row.new (R := RHp) _ h _)) HFL.out (by have := HS.out; have := HG3.out.size; simp; omega) ?_; intro v4 w4 hO4 hG4 hS4)
      have HO5 := Lib.hid hO4
      have HG5 : Hid (w.grownBy w4 v.ownBlock) := grown_trans HG3.out (by have := grown_alloc hG4; rw [HK3.out] at this; exact this)
      have HS5 : Hid (StaysOrNew w v v4) := stays_trans HG3.out.size HK3.out (stays_alloc hS4)
      clear hO4 hG4 hS4 N_b L_b
      go_wp2
      go_returns
      exact ⟨v4, rfl, HO5.out, HG5.out, HS5.out⟩
    · have hp : putNo xs h = true := by unfold putNo; rw [hr, ha]; rfl
      have e1 : putL xs h = xs := by unfold putL; rw [if_pos hp]
      unfold PutP
      rw [hp, e1]
      rw [ha] at HC
      clear HD hr hp e1 ha
      go_enter Try.func26, Try.ntmps26
      go_wp2_with fail
      refine (HR.out _).mono ?_
      rintro e w1 ⟨rfl, hb1⟩
      have HB1 := Lib.hid (bcall (B := w.heap.size) (a := w) (by go_grown) hb1 (by go_size))
      have HW1 : Hid (rowOf w1 w.heap.size = some (hvRow h)) := rowOf_below (rowOf_alloc_at _ _ _ rfl) hb1 (by simp)
      have hz1 : w.heap.size < w1.heap.size := rowOf_lt HW1.out
      clear hb1 HR
      go_wp2_with fail
      refine (HC.out _ HB1.out HW1.out).mono ?_
      rintro e w2 ⟨rfl, hb2⟩
      have HB2 := Lib.hid (bstep HB1.out hb2 HB1.out.size)
      clear hb2 HC HB1 HW1 hz1
      go_wp2
      go_returns
      exact ⟨v, rfl, HO.out.below HB2.out, grown_below HB2.out _, .inl rfl⟩
end Go.Proofs.Ytedjbklejdcknaa
/- the program's Least -/
namespace Go.Proofs.Ytedjbklejdcknaa
open Go.RowKit
set_option linter.unusedVariables false
set_option linter.unusedSimpArgs false
attribute [local go_sem ↓] loadHs storeH
attribute [local simp] size_setRow
attribute [local go_sem] rowAt_head rowOf_alloc_at rowOf_alloc_past rowOf_drew rowOf_drewN rowOf_setRow_same rowOf_setRow_other rowOf_setCell_same rowOf_setCell_other size_setRow setRow_drew setRow_alloc_at setRow_alloc_past one_int one_bool cell_setRow_same cell_setRow_other frozen_setRow_same frozen_setRow_other
attribute [local go_sem ↓] run_imin
attribute [local go_sem] HV.enc

theorem gen_c {P : Program} {f : FuncId} {args : Array Value} {R : Ending → World → Prop} {W : World} (F : World → Prop) (hF : F W) (h : ∀ W2, F W2 → Calls P f args W2 R) : Calls P f args W R := h W hF
set_option maxRecDepth 100000 in
set_option maxHeartbeats 16000000 in
theorem pleast_row (xs : List HV) (b off cap : Nat) (w : World) (hl : xs.length ≤ 1500000000000) (hb : b < w.heap.size) (hr : RHp.Row w b off xs) :
    Calls Try.prog 12 #[.slice (some ⟨b, off, none⟩) xs.length cap] w (RHp.Made (leastP xs) w) := by
  have HE : Hid (∀ W, Below w.heap.size w W → ∀ j, j < xs.length → elemL W ⟨b, off + j * 11, none⟩ 0 11 = some (HV.enc xs[j]!)) := fun W hW j hj => hop_elem hr hb hW j hj
  have HP : Hid (∀ k, k < xs.length → ∀ (v : Value) (W : World), RHp.Own w.heap.size W v (leastP (xs.take k)) → w.heap.size ≤ W.heap.size → Calls Try.prog 26 #[v, HV.val xs[k]!] W (PutP (leastP (xs.take k)) xs[k]! v w.heap.size W)) := fun k hk v W hO hB =>
    pput_any _ _ _ _ _ (by have := leastP_len (xs.take k); rw [List.length_take] at this; omega) hO hB
  have HS : Hid (∀ k, k < xs.length → putL (leastP (xs.take k)) xs[k]! = leastP (xs.take (k + 1))) := fun k hk => (leastP_take xs k hk).symm
  have HF : Hid (leastP (xs.take xs.length) = leastP xs) := by rw [Hid, List.take_length]
  have H0 : Hid (leastP (xs.take 0) = []) := rfl
  clear hr
  generalize leastP xs = F at HF ⊢
  generalize hn : xs.length = n at *
  have HN := Lib.hid hn
  clear hn
  go_enter Try.func12, Try.ntmps12
  go_wp2
  go_loopg [8, 3] n (fun gg i v wr => ∃ k : Nat, k ≤ n ∧ n - k ≤ gg ∧ i = .int .i64 (k : Int) ∧ Hid (Below w.heap.size w wr) ∧ Hid (RHp.Own w.heap.size wr v (leastP (xs.take k))))
  case atStart => exact ⟨0, Nat.zero_le _, by omega, rfl, Below.refl _ _, by rw [H0.out]; exact RowKind.Own.nil _ _ _⟩
  case round =>
    obtain ⟨k, hkn, hg, rfl, HB, HO⟩ := hrel
    by_cases hlt : k < n
    · have hlz : (k : Int) < (n : Int) := by omega
      have E1 := HE.out wr HB.out k hlt
      have HPk := Lib.hid (HP.out k hlt)
      have HSk := Lib.hid (HS.out k hlt)
      generalize xs[k]! = y at *
      clear HE HP HS
      go_upto_region 5 with (fail)
      refine gen_world (fun W2 => Below wr.heap.size wr W2 ∧ wr.heap.size < W2.heap.size ∧ rowOf W2 wr.heap.size = some (hvRow y)) ⟨by first | exact (Below.refl _ _).alloc (Nat.le_refl _) _ | skip, by simp, by first | exact rowOf_alloc_at _ _ _ rfl | skip⟩ ?_
      rintro w2 ⟨hB2, hz2, hrow2⟩
      have E2 := row_elem hrow2
      have HO2 := Lib.hid (HO.out.below hB2)
      have HB2 := Lib.hid (bstep HB.out hB2 HB.out.size)
      clear E1 hB2 hrow2
      go_wp2_with fail
      refine (HPk.out _ _ HO2.out HB2.out.size).mono ?_
      rintro e w3 ⟨v3, rfl, ho3, hg3, _⟩
      have HO3 : Hid (RHp.Own w.heap.size w3 v3 (leastP (xs.take (k + 1)))) := by rw [HSk.out] at ho3; exact ho3
      have HB3 : Hid (Below w.heap.size w w3) := HB2.out.grown hg3 HB2.out.size (fun i hi => (HO2.out.lt i hi).1)
      clear ho3 hg3 E2 HPk HSk HO HB
      go_wp2
      go_roundg (n - (k + 1))
      case measure => omega
      case rel => exact ⟨k + 1, by omega, by omega, by go_num, HB3.out, HO3.out⟩
    · have hlz : ¬ (k : Int) < (n : Int) := by omega
      obtain rfl : k = n := by omega
      clear HE HP HS
      go_wp2
      go_returns
      exact ⟨_, rfl, by rw [← HF.out]; exact HO.out, HB.out⟩
theorem pleast_nil (p : Option Addr) (cap : Nat) (w : World) : Calls Try.prog 12 #[.slice p 0 cap] w (RHp.Made [] w) := by
  go_enter Try.func12, Try.ntmps12
  go_wp2
  refine wp_loop_rounds 1 ?_
  rw [rounds_succ]
  go_wp2
  go_returns
  exact ⟨_, rfl, RowKind.Own.nil _ _ _, Below.refl _ _⟩
theorem pleast_any (xs : List HV) (v : Value) (w : World) (hl : xs.length ≤ 1500000000000) (hv : RHp.Is w v xs) : Calls Try.prog 12 #[v] w (RHp.Made (leastP xs) w) := by
  rcases hv with ⟨rfl, p, cap, rfl, _⟩ | ⟨_, b, off, cap, rfl, hb, hr⟩
  · exact pleast_nil p cap w
  · exact pleast_row xs b off cap w hl hb hr
end Go.Proofs.Ytedjbklejdcknaa
