/- the document's Run: the walk -/
import Derived.Test.YtcflfakffeglgaaQd
import Derived.Test.YtcflfakffeglgaaBoxG
import Derived.Test.YtcflfakffeglgaaRowKeep
import Derived.Deep.Cut
namespace Go.Proofs.Ytcflfakffeglgaa
open Go.RowKit
set_option linter.unusedVariables false
set_option linter.unusedSimpArgs false

theorem storeW (dst : Option Nat) (type : TypeId) (pos : String) (after : Array Edge) (guard : Option (Nat × Bool)) (x y : Operand) (a : Act) (w : World) (next : Act → World → Prop) (Q : Exit → Act → World → Prop) :
    Oper.wp Try.prog ⟨dst, .store 43 x y, type, pos, after, guard⟩ a w next Q = match a.eval x, a.eval y with
      | .pointer (some ad), .agg cs => (match rowAt w ad with
        | some c => if c.size = 17 ∧ cs.size = 17 ∧ 17 ≠ 0 ∧ cs.toList.all Value.oneCell' = true then next (a.put dst undef) (setRow w ad.block cs) else slowP (Oper.wp Try.prog ⟨dst, .store 43 x y, type, pos, after, guard⟩ a w next Q)
        | none => slowP (Oper.wp Try.prog ⟨dst, .store 43 x y, type, pos, after, guard⟩ a w next Q))
      | _, _ => slowP (Oper.wp Try.prog ⟨dst, .store 43 x y, type, pos, after, guard⟩ a w next Q) := by
  split
  · rename_i ad cs hx hy
    split
    · rename_i c hc
      split
      · rename_i hn
        have h := run_storeAt_any Try.prog w 43 17 (by kernel_rfl) (.pointer (some ad)) (.agg cs)
        simp only [hc] at h
        rw [if_pos hn] at h
        simp only [Oper.wp, execOp, hx, hy, Sem.run_bind, h, Result.andThen, Sem.run_pure, Oper.upon_skip]
      · rfl
    · rfl
  · rfl
attribute [local go_sem ↓] storeW
attribute [local simp] size_setRow
attribute [local go_sem] rowAt_head rowOf_alloc_at rowOf_alloc_past rowOf_drew rowOf_drewN rowOf_setRow_same rowOf_setRow_other rowOf_setCell_same rowOf_setCell_other size_setRow setRow_drew setRow_alloc_at setRow_alloc_past one_int one_bool

theorem ofN_ok (op : Int) {a b : Int} (ha : inR a) (hb : inR b) : inR (ofN op a b).1 ∧ ((ofN op a b).2 = 0 ∨ (2 ≤ (ofN op a b).2 ∧ (ofN op a b).2 ≤ 3)) := by
  have hr : ∀ x, inR (roomN x).1 ∧ ((roomN x).2 = 0 ∨ (2 ≤ (roomN x).2 ∧ (roomN x).2 ≤ 3)) := fun x => by
    by_cases h : inR x
    · rw [roomN_in h]; exact ⟨h, .inl rfl⟩
    · rw [roomN_out h]; exact ⟨by decide, .inr ⟨by decide, by decide⟩⟩
  have hz : inR 0 := by decide
  unfold ofN
  split
  · exact hr _
  split
  · exact hr _
  split
  · exact hr _
  split
  · split
    · exact ⟨hz, .inr ⟨by decide, by decide⟩⟩
    · exact hr _
  split
  · split
    · exact ⟨hz, .inr ⟨by decide, by decide⟩⟩
    · rename_i h; exact ⟨tmod_in ha h, .inl rfl⟩
  split
  · refine ⟨?_, .inl rfl⟩; split <;> decide
  split
  · refine ⟨?_, .inl rfl⟩; split <;> decide
  exact ⟨hz, .inl rfl⟩
/-- the call answers what the program makes of the record -/
def RunR (p : List NV) (r : RV) (w : World) (e : Ending) (w' : World) : Prop :=
  ∃ v, e = .returned (.tuple #[v, .int .i64 (runC p r).2]) ∧ RR.Own w.heap.size w' v (runC p r).1 ∧ Below w.heap.size w w'
set_option maxRecDepth 100000 in
set_option maxHeartbeats 16000000 in
theorem rrun_row (p : List NV) (rk rv : Int) (b off cap : Nat) (w : World) (hl : p.length ≤ 900000) (h0 : p ≠ []) (hb : b < w.heap.size) (hr : RC.Row w b off p) (hpn : ∀ x ∈ p, inR x.n) (hrk : inR rk) (hrv : inR rv) :
    Calls Try.prog 10 #[.slice (some ⟨b, off, none⟩) p.length cap, .agg #[.int .i64 rk, .int .i64 rv]] w (RunR p ⟨rk, rv⟩ w) := by
  have hrow : Hid (∀ (W : World), Below w.heap.size w W → ∀ j, j < p.length → _) := fun W hW j hj => atC7 (hr.below hW hb) j hj
  have hbox := Below.alloc (Below.refl w.heap.size w) (Nat.le_refl _) (.cells #[.int .i64 rk, .int .i64 rv] 24)
  have HRT := Lib.hid (fun W (hW : Below w.heap.size w W) => rright_any p (.slice (some ⟨b, off, none⟩) p.length cap) W hl (.inr ⟨h0, b, off, cap, rfl, Nat.lt_of_lt_of_le hb hW.size, hr.below hW hb⟩))
  have hno : rightC p = false → runC p ⟨rk, rv⟩ = ([], 0) := fun h => by unfold runC; rw [h]; rfl
  have hyes : rightC p = true → runP p ⟨rk, rv⟩ 256 [] [] 0 = runC p ⟨rk, rv⟩ := fun h => by unfold runC; rw [h]; rfl
  have hall : rightC p = true → ∀ j, j < p.length → NV.ok p.length p[j]! := fun h j hj => by
    unfold rightC at h
    rw [Bool.and_eq_true, List.all_eq_true] at h
    have := h.1 p[j]! (by rw [getElem!_pos p j hj]; exact List.getElem_mem hj)
    exact of_decide_eq_true this
  have hpn2 : ∀ j, j < p.length → inR p[j]!.n := fun j hj => hpn p[j]! (by rw [getElem!_pos p j hj]; exact List.getElem_mem hj)
  unfold RunR
  generalize runC p ⟨rk, rv⟩ = res at *
  generalize rightC p = ok at *
  have HB0 := Lib.hid hbox; have HNo := Lib.hid hno; have HYes := Lib.hid hyes; have HAll := Lib.hid hall; have HPn := Lib.hid hpn2
  have HRb : Hid (rowOf (w.alloc (.cells #[.int .i64 rk, .int .i64 rv] 24)) w.heap.size = some #[.int .i64 rk, .int .i64 rv]) := rowOf_alloc_at _ _ _ rfl
  clear hr hbox hno hyes hall hpn hpn2 h0
  generalize hn : p.length = n at *
  have HN := Lib.hid hn
  clear hn
  go_enter Try.func10, Try.ntmps10
  go_wp2_with fail
  refine (HRT.out _ HB0.out).mono ?_
  rintro e w1 ⟨rfl, hb1⟩
  have HB1 := Lib.hid (HB0.out.trans (hb1.mono HB0.out.size))
  have HRb1 := Lib.hid (rowOf_below HRb.out hb1 (by first | (simp; done) | (simp; omega)))
  clear hb1 HRT HRb HB0
  cases ok
  · have hres := HNo.out rfl
    subst hres
    clear HNo HYes HAll hrow
    go_wp2
    go_returns
    exact ⟨_, rfl, RowKind.Own.nil RR _ _, HB1.out⟩
  have hres := HYes.out rfl
  have HRes := Lib.hid hres
  clear HNo HYes hres
  have hlr1 := rowOf_lt HRb1.out
  go_upto_region 5 with (fail)
  refine gen_world (fun W => Below w.heap.size w W ∧ rowOf W w1.heap.size = some #[.int .i64 0, .int .i64 0, .int .i64 0, .int .i64 0, .int .i64 2, .int .i64 2, .int .i64 2, .int .i64 2, .int .i64 2, .int .i64 2, .int .i64 2, .int .i64 1, .int .i64 2, .int .i64 1, .int .i64 0, .int .i64 1, .int .i64 2] ∧ rowOf W (w1.heap.size + 1) = some #[.int .i64 0, .int .i64 1, .int .i64 1, .int .i64 1, .int .i64 1, .int .i64 1, .int .i64 1, .int .i64 1, .int .i64 1, .int .i64 1, .int .i64 1, .int .i64 2, .int .i64 2, .int .i64 0, .int .i64 0, .int .i64 0, .int .i64 0] ∧ rowOf W w.heap.size = some #[.int .i64 rk, .int .i64 rv]) ⟨(HB1.out.alloc HB1.out.size _).alloc (by have := HB1.out.size; simp; omega) _, (rowOf_alloc_past _ _ (by simp)).trans (rowOf_alloc_at _ _ _ rfl), rowOf_alloc_at _ _ _ (by simp), (rowOf_alloc_past _ _ (by simp; omega)).trans ((rowOf_alloc_past _ _ hlr1).trans HRb1.out)⟩ ?_
  rintro w2 ⟨hB2, hT1, hT2, hRb⟩
  have HB2 := Lib.hid hB2; have HT1 := Lib.hid hT1; have HT2 := Lib.hid hT2; have HRb := Lib.hid hRb
  clear hB2 hT1 hT2 hRb HRb1 HB1 hlr1
  generalize w1.heap.size + 1 = b7 at *
  generalize w1.heap.size = b6 at *
  go_wp2_with fail
  go_loopg [8, 9, 10, 11, 12] 300 (fun gg s o pc bd st wr => ∃ (S : List Int) (O : List RV) (k : Nat) (e : Int) (j : Nat), pc = .int .i64 (k : Int) ∧ bd = .int .i64 e ∧ st = .int .i64 (j : Int) ∧ Hid (Below w2.heap.size w2 wr) ∧ Hid (R6.Own w2.heap.size wr s S) ∧ Hid (RR.Own w2.heap.size wr o O) ∧ j ≤ 257 ∧
    ((e = 0 ∧ j ≤ 256 ∧ k ≤ n ∧ S.length ≤ 8 ∧ Hid (∀ x ∈ S, inR x) ∧ O.length ≤ 8 ∧ Hid (runP p ⟨rk, rv⟩ (256 - j) S O k = res) ∧ 300 - j ≤ gg) ∨ (e ≠ 0 ∧ 1 ≤ e ∧ e ≤ 5 ∧ Hid (res = errL ⟨rk, rv⟩ e))))
  case atStart => exact ⟨[], [], 0, 0, 0, rfl, rfl, rfl, Below.refl _ _, RowKind.Own.nil R6 _ _, RowKind.Own.nil RR _ _, by omega, .inl ⟨rfl, by omega, by omega, by simp, (fun x hx => by simp at hx), by simp, HRes.out, by omega⟩⟩
  case round =>
    obtain ⟨S, O, k, e, j, rfl, rfl, rfl, HB, HS, HO, hj, hcase⟩ := hrel
    rcases hcase with ⟨rfl, hj256, hkn, hS8, HSr, hO8, HC, hgg⟩ | ⟨he0, he1, he5, HE⟩
    · by_cases hlt : k < n
      · have hlz : (k : Int) < (n : Int) := by omega
        have hc := hrow.out wr (HB2.out.trans (HB.out.mono HB2.out.size)) k hlt
        have hxok := HAll.out (by trivial) k hlt
        have hxn := HPn.out k hlt
        have hbad := fun (s' : List Int) (o' : List RV) (pc' : Nat) (e : Int) (hs : stepP ⟨rk, rv⟩ p[k]! S O (k + 1) = (e, s', o', pc')) (he : e ≠ 0) (hj : j < 256) => show res = errL ⟨rk, rv⟩ e by
          rw [← HC.out, show 256 - j = (255 - j) + 1 by omega]
          exact runP_bad (by rw [HN.out]; exact hlt) hs he
        have hgo := fun (s' : List Int) (o' : List RV) (pc' : Nat) (hs : stepP ⟨rk, rv⟩ p[k]! S O (k + 1) = (0, s', o', pc')) (hj : j < 256) => show runP p ⟨rk, rv⟩ (256 - (j + 1)) s' o' pc' = res by
          rw [← HC.out, show 256 - j = (256 - (j + 1)) + 1 by omega]
          exact (runP_go (by rw [HN.out]; exact hlt) hs).symm
        have hfu := fun (hj : j = 256) => show res = errL ⟨rk, rv⟩ 4 by
          rw [← HC.out, hj]
          exact runP_fuel (by rw [HN.out]; exact hlt)
        generalize p[k]! = x at *
        obtain ⟨op, nn⟩ := x
        obtain ⟨c0, c1⟩ := hc
        simp only at c0 c1 hxn
        have HBad := Lib.hid hbad; have HGo := Lib.hid hgo; have HFu := Lib.hid hfu
        clear hbad hgo hfu hrow HAll HPn HC
        have hT1 := rowOf_below HT1.out HB.out (rowOf_lt HT1.out)
        have hT2 := rowOf_below HT2.out HB.out (rowOf_lt HT2.out)
        have hRb := rowOf_below HRb.out HB.out (rowOf_lt HRb.out)
        have L1 := rowOf_lt hT1
        have L2 := rowOf_lt hT2
        have L3 := rowOf_lt hRb
        go_upto_region 12 with (fail)
        refine gen_world (fun W => Below w2.heap.size w2 W ∧ R6.Own w2.heap.size W u8 S ∧ RR.Own w2.heap.size W u9 O ∧ rowOf W b6 = some #[.int .i64 0, .int .i64 0, .int .i64 0, .int .i64 0, .int .i64 2, .int .i64 2, .int .i64 2, .int .i64 2, .int .i64 2, .int .i64 2, .int .i64 2, .int .i64 1, .int .i64 2, .int .i64 1, .int .i64 0, .int .i64 1, .int .i64 2] ∧ rowOf W b7 = some #[.int .i64 0, .int .i64 1, .int .i64 1, .int .i64 1, .int .i64 1, .int .i64 1, .int .i64 1, .int .i64 1, .int .i64 1, .int .i64 1, .int .i64 1, .int .i64 2, .int .i64 2, .int .i64 0, .int .i64 0, .int .i64 0, .int .i64 0] ∧ rowOf W w.heap.size = some #[.int .i64 rk, .int .i64 rv] ∧ rowOf W wr.heap.size = some #[.int .i64 op, .int .i64 nn]) ⟨HB.out.alloc HB.out.size _, HS.out.alloc _, HO.out.alloc _, (rowOf_alloc_past _ _ L1).trans hT1, (rowOf_alloc_past _ _ L2).trans hT2, (rowOf_alloc_past _ _ L3).trans hRb, rowOf_alloc_at _ _ _ rfl⟩ ?_
        rintro W ⟨hB, hS, hO, hT1', hT2', hRb', hI⟩
        replace HB := Lib.hid hB; replace HS := Lib.hid hS; replace HO := Lib.hid hO
        clear hB hS hO hT1 hT2 hRb L1 L2 L3 c0 c1
        generalize wr.heap.size = bi at *
        have i0 : W.cell? ⟨bi, 0, none⟩ = some (.int .i64 op) := rowOf_cell hI 0
        have i1 : W.cell? ⟨bi, 1, none⟩ = some (.int .i64 nn) := rowOf_cell hI 1
        have r0 : W.cell? ⟨w.heap.size, 0, none⟩ = some (.int .i64 rk) := rowOf_cell hRb' 0
        have r1 : W.cell? ⟨w.heap.size, 1, none⟩ = some (.int .i64 rv) := rowOf_cell hRb' 1
        have HT1w := Lib.hid hT1'; have HT2w := Lib.hid hT2'; have HIw := Lib.hid hI; have HRw := Lib.hid hRb'
        clear hT1' hT2' hRb' hI
        by_cases hj2 : j = 256
        · subst hj2
          have HE := Lib.hid (HFu.out rfl)
          clear HBad HGo HFu hxok
          go_wp2
          go_roundg 0
          case measure => omega
          case rel => exact ⟨S, O, _, 4, 256 + 1, by first | rfl | go_num, rfl, by go_num, HB.out, HS.out, HO.out, by omega, .inr ⟨by decide, by decide, by decide, HE.out⟩⟩
        · have hj3 : j < 256 := by omega
          have hjb : ((j : Int) == 256) = false := by simp; omega
          obtain ⟨ho1, ho2, ho3, ho4⟩ := hxok
          simp only at ho1 ho2 ho3 ho4
          obtain ⟨ps, cs, rfl⟩ := HS.out.is.slice
          rcases (by omega : op = 1 ∨ op = 2 ∨ op = 3 ∨ op = 4 ∨ op = 5 ∨ op = 6 ∨ op = 7 ∨ op = 8 ∨ op = 9 ∨ op = 10 ∨ op = 11 ∨ op = 12 ∨ op = 13 ∨ op = 14 ∨ op = 15 ∨ op = 16) with rfl | rfl | rfl | rfl | rfl | rfl | rfl | rfl | rfl | rfl | rfl | rfl | rfl | rfl | rfl | rfl
          · as_aux_lemma =>
              have t0 : W.cell? ⟨b6, 1, none⟩ = some (.int .i64 0) := rowOf_cell HT1w.out 1
              have t1 : W.cell? ⟨b7, 1, none⟩ = some (.int .i64 1) := rowOf_cell HT2w.out 1
              by_cases hA2 : 8 < S.length + 1
              · have hAi : ¬ (S.length : Int) < 0 := by omega
                have hAj : (S.length : Int) + 1 > 8 := by omega
                have HE := Lib.hid (HBad.out S O (k + 1) 1 (by unfold stepP; exact if_pos (.inr (show 8 < S.length - 0 + 1 by omega))) (by decide) hj3)
                generalize S.length = m at *
                clear HBad HGo HFu
                go_wp2
                go_roundg 0
                case measure => omega
                case rel => exact ⟨S, O, k + 1, 1, j + 1, by go_num, rfl, by go_num, HB.out, HS.out, HO.out, by omega, .inr ⟨by decide, by decide, by decide, HE.out⟩⟩
              obtain ⟨m, hm⟩ : ∃ m, S.length = m + 0 := ⟨S.length - 0, by omega⟩
              have hnb : ¬ (S.length < 0 ∨ 8 < S.length - 0 + 1) := by omega
              have hst : stepP ⟨rk, rv⟩ ⟨1, nn⟩ S O (k + 1) = (0, S.take m ++ [nn], O, k + 1) := by
                unfold stepP
                rw [if_neg (show ¬ (S.length < takesN 1 ∨ 8 < S.length - takesN 1 + givesN 1) from hnb)]
                simp [takesN, hm]
              have htl : (S.take m).length = m := by rw [List.length_take]; omega
              have htr : ∀ x ∈ S.take m, inR x := fun x hx => HSr.out x (List.mem_of_mem_take hx)
              rw [hm] at HS
              rw [hm]
              have HSp := Lib.hid (HS.out.part m (by omega))
              have hmc : m ≤ cs := by have := ownCapK HS.out _ _ _ rfl; omega
              have HST := Lib.hid hst; have HTr := Lib.hid htr; have HTl := Lib.hid htl
              clear hst htr htl hnb HFu
              have HG := Lib.hid (HGo.out _ _ _ HST.out hj3)
              clear HBad HGo HST
              have HLen : Hid ((S.take m).length + 1 ≤ 900000) := by show _ ≤ _; rw [HTl.out]; omega
              have hl8 : (S.take m ++ [nn]).length ≤ 8 := by rw [List.length_append, HTl.out]; simp; omega
              have hr8 : Hid (∀ x ∈ S.take m ++ [nn], inR x) := fun x hx => by
                rcases List.mem_append.1 hx with hx | hx
                · exact HTr.out x hx
                · simp at hx
                  subst hx; exact hxn
              go_wp2_with (at_builtin; refine RowKind.Own.pushO (R := R6) (R2 := RR) (ys := [nn]) HSp.out HO.out (by decide) HB.out HB.out.size rfl _ _ rfl rfl _ rfl HLen.out ?_; intro v6 w6 hS6 hO6 hB6)
              go_roundg (300 - (j + 1))
              case measure => omega
              case rel => exact ⟨S.take m ++ [nn], O, k + 1, 0, j + 1, by first | rfl | go_num, rfl, by go_num, hB6, hS6, hO6, by omega, .inl ⟨rfl, by omega, by omega, hl8, hr8.out, hO8, HG.out, by omega⟩⟩
          · as_aux_lemma =>
              have t0 : W.cell? ⟨b6, 2, none⟩ = some (.int .i64 0) := rowOf_cell HT1w.out 2
              have t1 : W.cell? ⟨b7, 2, none⟩ = some (.int .i64 1) := rowOf_cell HT2w.out 2
              by_cases hA2 : 8 < S.length + 1
              · have hAi : ¬ (S.length : Int) < 0 := by omega
                have hAj : (S.length : Int) + 1 > 8 := by omega
                have HE := Lib.hid (HBad.out S O (k + 1) 1 (by unfold stepP; exact if_pos (.inr (show 8 < S.length - 0 + 1 by omega))) (by decide) hj3)
                generalize S.length = m at *
                clear HBad HGo HFu
                go_wp2
                go_roundg 0
                case measure => omega
                case rel => exact ⟨S, O, k + 1, 1, j + 1, by go_num, rfl, by go_num, HB.out, HS.out, HO.out, by omega, .inr ⟨by decide, by decide, by decide, HE.out⟩⟩
              obtain ⟨m, hm⟩ : ∃ m, S.length = m + 0 := ⟨S.length - 0, by omega⟩
              have hnb : ¬ (S.length < 0 ∨ 8 < S.length - 0 + 1) := by omega
              have hst : stepP ⟨rk, rv⟩ ⟨2, nn⟩ S O (k + 1) = (0, S.take m ++ [rk], O, k + 1) := by
                unfold stepP
                rw [if_neg (show ¬ (S.length < takesN 2 ∨ 8 < S.length - takesN 2 + givesN 2) from hnb)]
                simp [takesN, hm]
              have htl : (S.take m).length = m := by rw [List.length_take]; omega
              have htr : ∀ x ∈ S.take m, inR x := fun x hx => HSr.out x (List.mem_of_mem_take hx)
              rw [hm] at HS
              rw [hm]
              have HSp := Lib.hid (HS.out.part m (by omega))
              have hmc : m ≤ cs := by have := ownCapK HS.out _ _ _ rfl; omega
              have HST := Lib.hid hst; have HTr := Lib.hid htr; have HTl := Lib.hid htl
              clear hst htr htl hnb HFu
              have HG := Lib.hid (HGo.out _ _ _ HST.out hj3)
              clear HBad HGo HST
              have HLen : Hid ((S.take m).length + 1 ≤ 900000) := by show _ ≤ _; rw [HTl.out]; omega
              have hl8 : (S.take m ++ [rk]).length ≤ 8 := by rw [List.length_append, HTl.out]; simp; omega
              have hr8 : Hid (∀ x ∈ S.take m ++ [rk], inR x) := fun x hx => by
                rcases List.mem_append.1 hx with hx | hx
                · exact HTr.out x hx
                · simp at hx
                  subst hx; exact hrk
              go_wp2_with (at_builtin; refine RowKind.Own.pushO (R := R6) (R2 := RR) (ys := [rk]) HSp.out HO.out (by decide) HB.out HB.out.size rfl _ _ rfl rfl _ rfl HLen.out ?_; intro v6 w6 hS6 hO6 hB6)
              go_roundg (300 - (j + 1))
              case measure => omega
              case rel => exact ⟨S.take m ++ [rk], O, k + 1, 0, j + 1, by first | rfl | go_num, rfl, by go_num, hB6, hS6, hO6, by omega, .inl ⟨rfl, by omega, by omega, hl8, hr8.out, hO8, HG.out, by omega⟩⟩
          · as_aux_lemma =>
              have t0 : W.cell? ⟨b6, 3, none⟩ = some (.int .i64 0) := rowOf_cell HT1w.out 3
              have t1 : W.cell? ⟨b7, 3, none⟩ = some (.int .i64 1) := rowOf_cell HT2w.out 3
              by_cases hA2 : 8 < S.length + 1
              · have hAi : ¬ (S.length : Int) < 0 := by omega
                have hAj : (S.length : Int) + 1 > 8 := by omega
                have HE := Lib.hid (HBad.out S O (k + 1) 1 (by unfold stepP; exact if_pos (.inr (show 8 < S.length - 0 + 1 by omega))) (by decide) hj3)
                generalize S.length = m at *
                clear HBad HGo HFu
                go_wp2
                go_roundg 0
                case measure => omega
                case rel => exact ⟨S, O, k + 1, 1, j + 1, by go_num, rfl, by go_num, HB.out, HS.out, HO.out, by omega, .inr ⟨by decide, by decide, by decide, HE.out⟩⟩
              obtain ⟨m, hm⟩ : ∃ m, S.length = m + 0 := ⟨S.length - 0, by omega⟩
              have hnb : ¬ (S.length < 0 ∨ 8 < S.length - 0 + 1) := by omega
              have hst : stepP ⟨rk, rv⟩ ⟨3, nn⟩ S O (k + 1) = (0, S.take m ++ [rv], O, k + 1) := by
                unfold stepP
                rw [if_neg (show ¬ (S.length < takesN 3 ∨ 8 < S.length - takesN 3 + givesN 3) from hnb)]
                simp [takesN, hm]
              have htl : (S.take m).length = m := by rw [List.length_take]; omega
              have htr : ∀ x ∈ S.take m, inR x := fun x hx => HSr.out x (List.mem_of_mem_take hx)
              rw [hm] at HS
              rw [hm]
              have HSp := Lib.hid (HS.out.part m (by omega))
              have hmc : m ≤ cs := by have := ownCapK HS.out _ _ _ rfl; omega
              have HST := Lib.hid hst; have HTr := Lib.hid htr; have HTl := Lib.hid htl
              clear hst htr htl hnb HFu
              have HG := Lib.hid (HGo.out _ _ _ HST.out hj3)
              clear HBad HGo HST
              have HLen : Hid ((S.take m).length + 1 ≤ 900000) := by show _ ≤ _; rw [HTl.out]; omega
              have hl8 : (S.take m ++ [rv]).length ≤ 8 := by rw [List.length_append, HTl.out]; simp; omega
              have hr8 : Hid (∀ x ∈ S.take m ++ [rv], inR x) := fun x hx => by
                rcases List.mem_append.1 hx with hx | hx
                · exact HTr.out x hx
                · simp at hx
                  subst hx; exact hrv
              go_wp2_with (at_builtin; refine RowKind.Own.pushO (R := R6) (R2 := RR) (ys := [rv]) HSp.out HO.out (by decide) HB.out HB.out.size rfl _ _ rfl rfl _ rfl HLen.out ?_; intro v6 w6 hS6 hO6 hB6)
              go_roundg (300 - (j + 1))
              case measure => omega
              case rel => exact ⟨S.take m ++ [rv], O, k + 1, 0, j + 1, by first | rfl | go_num, rfl, by go_num, hB6, hS6, hO6, by omega, .inl ⟨rfl, by omega, by omega, hl8, hr8.out, hO8, HG.out, by omega⟩⟩
          · as_aux_lemma =>
              have t0 : W.cell? ⟨b6, 4, none⟩ = some (.int .i64 2) := rowOf_cell HT1w.out 4
              have t1 : W.cell? ⟨b7, 4, none⟩ = some (.int .i64 1) := rowOf_cell HT2w.out 4
              by_cases hA : S.length < 2
              · have hAi : (S.length : Int) < 2 := by omega
                have HE := Lib.hid (HBad.out S O (k + 1) 1 (by unfold stepP; exact if_pos (.inl (show S.length < 2 from hA))) (by decide) hj3)
                generalize S.length = m at *
                clear HBad HGo HFu
                go_wp2
                go_roundg 0
                case measure => omega
                case rel => exact ⟨S, O, k + 1, 1, j + 1, by go_num, rfl, by go_num, HB.out, HS.out, HO.out, by omega, .inr ⟨by decide, by decide, by decide, HE.out⟩⟩
              obtain ⟨m, hm⟩ : ∃ m, S.length = m + 2 := ⟨S.length - 2, by omega⟩
              have hnb : ¬ (S.length < 2 ∨ 8 < S.length - 2 + 1) := by omega
              have hSne : S ≠ [] := fun e => by rw [e] at hm; simp at hm
              rcases HS.out.is with ⟨e, _⟩ | ⟨_, gs, os, cs2, e2, hgs, hrs⟩
              · exact absurd e hSne
              simp only [Value.slice.injEq] at e2
              obtain ⟨rfl, _, rfl⟩ := e2
              have s0 := at6 hrs m (by omega)
              have hy0 := HSr.out S[m]! (by rw [getElem!_pos S m (by omega)]; exact List.getElem_mem (by omega))
              have s1 := at6 hrs (m + 1) (by omega)
              have hy1 := HSr.out S[m + 1]! (by rw [getElem!_pos S (m + 1) (by omega)]; exact List.getElem_mem (by omega))
              have hst : stepP ⟨rk, rv⟩ ⟨4, nn⟩ S O (k + 1) = ((ofN 4 S[m]! S[m + 1]!).2, S.take m ++ [(ofN 4 S[m]! S[m + 1]!).1], O, k + 1) := by
                unfold stepP
                rw [if_neg (show ¬ (S.length < takesN 4 ∨ 8 < S.length - takesN 4 + givesN 4) from hnb)]
                simp [takesN, hm]
              have htl : (S.take m).length = m := by rw [List.length_take]; omega
              have htr : ∀ x ∈ S.take m, inR x := fun x hx => HSr.out x (List.mem_of_mem_take hx)
              rw [hm] at HS
              rw [hm]
              have HSp := Lib.hid (HS.out.part m (by omega))
              have hmc : m ≤ cs := by have := ownCapK HS.out _ _ _ rfl; omega
              generalize S[m]! = y0 at *
              generalize S[m + 1]! = y1 at *
              have HST := Lib.hid hst; have HTr := Lib.hid htr; have HTl := Lib.hid htl
              clear hst htr htl hnb HFu
              go_wp2_with fail
              go_quiet (fail)
              refine gen_q (fun W2 => Below w2.heap.size w2 W2 ∧ R6.Own w2.heap.size W2 (.slice (some ⟨gs, os, none⟩) m cs) (S.take m) ∧ RR.Own w2.heap.size W2 u9 O ∧ W2.cell? ⟨bi, 0, none⟩ = some (.int .i64 4) ∧ W2.cell? ⟨b6, 4, none⟩ = some (.int .i64 2)) ⟨below_drewN HB.out _, HSp.out, HO.out, i0, t0⟩ ?_
              clear i0 i1 r0 r1 t0 t1 s0 s1 hgs hrs HT1w HT2w HIw HRw HB HS HO HSp
              rintro W2 ⟨hB, hS, hO, i0, t0⟩
              have HB := Lib.hid hB; have HSp := Lib.hid hS; have HO := Lib.hid hO
              clear hB hS hO
              have hok := ofN_ok 4 hy0 hy1
              have HOf : Hid (∀ W, Calls Try.prog 14 #[.int .i64 4, .int .i64 y0, .int .i64 y1] W (RetW (ofV2 (ofN 4 y0 y1)) W)) := fun W => rof07_any 4 y0 y1 hy0 hy1 W
              generalize ofN 4 y0 y1 = zz at *
              obtain ⟨z, ze⟩ := zz
              simp only at hok
              obtain ⟨hz, hze⟩ := hok
              have HST2 : Hid (stepP ⟨rk, rv⟩ ⟨4, nn⟩ S O (k + 1) = (ze, S.take m ++ [z], O, k + 1)) := HST.out
              clear HST
              have HLen : Hid ((S.take m).length + 1 ≤ 900000) := by show _ ≤ _; rw [HTl.out]; omega
              have hl8 : (S.take m ++ [z]).length ≤ 8 := by rw [List.length_append, HTl.out]; simp; omega
              have hr8 : Hid (∀ x ∈ S.take m ++ [z], inR x) := fun x hx => by
                rcases List.mem_append.1 hx with hx | hx
                · exact HTr.out x hx
                · simp at hx
                  subst hx; exact hz
              go_wp2_with fail
              refine (HOf.out _).mono ?_
              rintro e w5 ⟨rfl, rfl⟩
              go_wp2_with (at_builtin; refine RowKind.Own.pushO (R := R6) (R2 := RR) (ys := [z]) HSp.out HO.out (by decide) HB.out HB.out.size rfl _ _ rfl rfl _ rfl HLen.out ?_; intro v6 w6 hS6 hO6 hB6)
              by_cases hze0 : ze = 0
              · subst hze0
                have HG := Lib.hid (HGo.out _ _ _ HST2.out hj3)
                go_roundg (300 - (j + 1))
                case measure => omega
                case rel => exact ⟨S.take m ++ [z], O, k + 1, 0, j + 1, by first | rfl | go_num, rfl, by go_num, hB6, hS6, hO6, by omega, .inl ⟨rfl, by omega, by omega, hl8, hr8.out, hO8, HG.out, by omega⟩⟩
              · have HE := Lib.hid (HBad.out _ _ _ ze HST2.out hze0 hj3)
                go_roundg 0
                case measure => omega
                case rel => exact ⟨S.take m ++ [z], O, k + 1, ze, j + 1, by go_num, rfl, by go_num, hB6, hS6, hO6, by omega, .inr ⟨hze0, by omega, by omega, HE.out⟩⟩
          · as_aux_lemma =>
              have t0 : W.cell? ⟨b6, 5, none⟩ = some (.int .i64 2) := rowOf_cell HT1w.out 5
              have t1 : W.cell? ⟨b7, 5, none⟩ = some (.int .i64 1) := rowOf_cell HT2w.out 5
              by_cases hA : S.length < 2
              · have hAi : (S.length : Int) < 2 := by omega
                have HE := Lib.hid (HBad.out S O (k + 1) 1 (by unfold stepP; exact if_pos (.inl (show S.length < 2 from hA))) (by decide) hj3)
                generalize S.length = m at *
                clear HBad HGo HFu
                go_wp2
                go_roundg 0
                case measure => omega
                case rel => exact ⟨S, O, k + 1, 1, j + 1, by go_num, rfl, by go_num, HB.out, HS.out, HO.out, by omega, .inr ⟨by decide, by decide, by decide, HE.out⟩⟩
              obtain ⟨m, hm⟩ : ∃ m, S.length = m + 2 := ⟨S.length - 2, by omega⟩
              have hnb : ¬ (S.length < 2 ∨ 8 < S.length - 2 + 1) := by omega
              have hSne : S ≠ [] := fun e => by rw [e] at hm; simp at hm
              rcases HS.out.is with ⟨e, _⟩ | ⟨_, gs, os, cs2, e2, hgs, hrs⟩
              · exact absurd e hSne
              simp only [Value.slice.injEq] at e2
              obtain ⟨rfl, _, rfl⟩ := e2
              have s0 := at6 hrs m (by omega)
              have hy0 := HSr.out S[m]! (by rw [getElem!_pos S m (by omega)]; exact List.getElem_mem (by omega))
              have s1 := at6 hrs (m + 1) (by omega)
              have hy1 := HSr.out S[m + 1]! (by rw [getElem!_pos S (m + 1) (by omega)]; exact List.getElem_mem (by omega))
              have hst : stepP ⟨rk, rv⟩ ⟨5, nn⟩ S O (k + 1) = ((ofN 5 S[m]! S[m + 1]!).2, S.take m ++ [(ofN 5 S[m]! S[m + 1]!).1], O, k + 1) := by
                unfold stepP
                rw [if_neg (show ¬ (S.length < takesN 5 ∨ 8 < S.length - takesN 5 + givesN 5) from hnb)]
                simp [takesN, hm]
              have htl : (S.take m).length = m := by rw [List.length_take]; omega
              have htr : ∀ x ∈ S.take m, inR x := fun x hx => HSr.out x (List.mem_of_mem_take hx)
              rw [hm] at HS
              rw [hm]
              have HSp := Lib.hid (HS.out.part m (by omega))
              have hmc : m ≤ cs := by have := ownCapK HS.out _ _ _ rfl; omega
              generalize S[m]! = y0 at *
              generalize S[m + 1]! = y1 at *
              have HST := Lib.hid hst; have HTr := Lib.hid htr; have HTl := Lib.hid htl
              clear hst htr htl hnb HFu
              go_wp2_with fail
              go_quiet (fail)
              refine gen_q (fun W2 => Below w2.heap.size w2 W2 ∧ R6.Own w2.heap.size W2 (.slice (some ⟨gs, os, none⟩) m cs) (S.take m) ∧ RR.Own w2.heap.size W2 u9 O ∧ W2.cell? ⟨bi, 0, none⟩ = some (.int .i64 5) ∧ W2.cell? ⟨b6, 5, none⟩ = some (.int .i64 2)) ⟨below_drewN HB.out _, HSp.out, HO.out, i0, t0⟩ ?_
              clear i0 i1 r0 r1 t0 t1 s0 s1 hgs hrs HT1w HT2w HIw HRw HB HS HO HSp
              rintro W2 ⟨hB, hS, hO, i0, t0⟩
              have HB := Lib.hid hB; have HSp := Lib.hid hS; have HO := Lib.hid hO
              clear hB hS hO
              have hok := ofN_ok 5 hy0 hy1
              have HOf : Hid (∀ W, Calls Try.prog 14 #[.int .i64 5, .int .i64 y0, .int .i64 y1] W (RetW (ofV2 (ofN 5 y0 y1)) W)) := fun W => rof07_any 5 y0 y1 hy0 hy1 W
              generalize ofN 5 y0 y1 = zz at *
              obtain ⟨z, ze⟩ := zz
              simp only at hok
              obtain ⟨hz, hze⟩ := hok
              have HST2 : Hid (stepP ⟨rk, rv⟩ ⟨5, nn⟩ S O (k + 1) = (ze, S.take m ++ [z], O, k + 1)) := HST.out
              clear HST
              have HLen : Hid ((S.take m).length + 1 ≤ 900000) := by show _ ≤ _; rw [HTl.out]; omega
              have hl8 : (S.take m ++ [z]).length ≤ 8 := by rw [List.length_append, HTl.out]; simp; omega
              have hr8 : Hid (∀ x ∈ S.take m ++ [z], inR x) := fun x hx => by
                rcases List.mem_append.1 hx with hx | hx
                · exact HTr.out x hx
                · simp at hx
                  subst hx; exact hz
              go_wp2_with fail
              refine (HOf.out _).mono ?_
              rintro e w5 ⟨rfl, rfl⟩
              go_wp2_with (at_builtin; refine RowKind.Own.pushO (R := R6) (R2 := RR) (ys := [z]) HSp.out HO.out (by decide) HB.out HB.out.size rfl _ _ rfl rfl _ rfl HLen.out ?_; intro v6 w6 hS6 hO6 hB6)
              by_cases hze0 : ze = 0
              · subst hze0
                have HG := Lib.hid (HGo.out _ _ _ HST2.out hj3)
                go_roundg (300 - (j + 1))
                case measure => omega
                case rel => exact ⟨S.take m ++ [z], O, k + 1, 0, j + 1, by first | rfl | go_num, rfl, by go_num, hB6, hS6, hO6, by omega, .inl ⟨rfl, by omega, by omega, hl8, hr8.out, hO8, HG.out, by omega⟩⟩
              · have HE := Lib.hid (HBad.out _ _ _ ze HST2.out hze0 hj3)
                go_roundg 0
                case measure => omega
                case rel => exact ⟨S.take m ++ [z], O, k + 1, ze, j + 1, by go_num, rfl, by go_num, hB6, hS6, hO6, by omega, .inr ⟨hze0, by omega, by omega, HE.out⟩⟩
          · as_aux_lemma =>
              have t0 : W.cell? ⟨b6, 6, none⟩ = some (.int .i64 2) := rowOf_cell HT1w.out 6
              have t1 : W.cell? ⟨b7, 6, none⟩ = some (.int .i64 1) := rowOf_cell HT2w.out 6
              by_cases hA : S.length < 2
              · have hAi : (S.length : Int) < 2 := by omega
                have HE := Lib.hid (HBad.out S O (k + 1) 1 (by unfold stepP; exact if_pos (.inl (show S.length < 2 from hA))) (by decide) hj3)
                generalize S.length = m at *
                clear HBad HGo HFu
                go_wp2
                go_roundg 0
                case measure => omega
                case rel => exact ⟨S, O, k + 1, 1, j + 1, by go_num, rfl, by go_num, HB.out, HS.out, HO.out, by omega, .inr ⟨by decide, by decide, by decide, HE.out⟩⟩
              obtain ⟨m, hm⟩ : ∃ m, S.length = m + 2 := ⟨S.length - 2, by omega⟩
              have hnb : ¬ (S.length < 2 ∨ 8 < S.length - 2 + 1) := by omega
              have hSne : S ≠ [] := fun e => by rw [e] at hm; simp at hm
              rcases HS.out.is with ⟨e, _⟩ | ⟨_, gs, os, cs2, e2, hgs, hrs⟩
              · exact absurd e hSne
              simp only [Value.slice.injEq] at e2
              obtain ⟨rfl, _, rfl⟩ := e2
              have s0 := at6 hrs m (by omega)
              have hy0 := HSr.out S[m]! (by rw [getElem!_pos S m (by omega)]; exact List.getElem_mem (by omega))
              have s1 := at6 hrs (m + 1) (by omega)
              have hy1 := HSr.out S[m + 1]! (by rw [getElem!_pos S (m + 1) (by omega)]; exact List.getElem_mem (by omega))
              have hst : stepP ⟨rk, rv⟩ ⟨6, nn⟩ S O (k + 1) = ((ofN 6 S[m]! S[m + 1]!).2, S.take m ++ [(ofN 6 S[m]! S[m + 1]!).1], O, k + 1) := by
                unfold stepP
                rw [if_neg (show ¬ (S.length < takesN 6 ∨ 8 < S.length - takesN 6 + givesN 6) from hnb)]
                simp [takesN, hm]
              have htl : (S.take m).length = m := by rw [List.length_take]; omega
              have htr : ∀ x ∈ S.take m, inR x := fun x hx => HSr.out x (List.mem_of_mem_take hx)
              rw [hm] at HS
              rw [hm]
              have HSp := Lib.hid (HS.out.part m (by omega))
              have hmc : m ≤ cs := by have := ownCapK HS.out _ _ _ rfl; omega
              generalize S[m]! = y0 at *
              generalize S[m + 1]! = y1 at *
              have HST := Lib.hid hst; have HTr := Lib.hid htr; have HTl := Lib.hid htl
              clear hst htr htl hnb HFu
              go_wp2_with fail
              go_quiet (fail)
              refine gen_q (fun W2 => Below w2.heap.size w2 W2 ∧ R6.Own w2.heap.size W2 (.slice (some ⟨gs, os, none⟩) m cs) (S.take m) ∧ RR.Own w2.heap.size W2 u9 O ∧ W2.cell? ⟨bi, 0, none⟩ = some (.int .i64 6) ∧ W2.cell? ⟨b6, 6, none⟩ = some (.int .i64 2)) ⟨below_drewN HB.out _, HSp.out, HO.out, i0, t0⟩ ?_
              clear i0 i1 r0 r1 t0 t1 s0 s1 hgs hrs HT1w HT2w HIw HRw HB HS HO HSp
              rintro W2 ⟨hB, hS, hO, i0, t0⟩
              have HB := Lib.hid hB; have HSp := Lib.hid hS; have HO := Lib.hid hO
              clear hB hS hO
              have hok := ofN_ok 6 hy0 hy1
              have HOf : Hid (∀ W, Calls Try.prog 14 #[.int .i64 6, .int .i64 y0, .int .i64 y1] W (RetW (ofV2 (ofN 6 y0 y1)) W)) := fun W => rof07_any 6 y0 y1 hy0 hy1 W
              generalize ofN 6 y0 y1 = zz at *
              obtain ⟨z, ze⟩ := zz
              simp only at hok
              obtain ⟨hz, hze⟩ := hok
              have HST2 : Hid (stepP ⟨rk, rv⟩ ⟨6, nn⟩ S O (k + 1) = (ze, S.take m ++ [z], O, k + 1)) := HST.out
              clear HST
              have HLen : Hid ((S.take m).length + 1 ≤ 900000) := by show _ ≤ _; rw [HTl.out]; omega
              have hl8 : (S.take m ++ [z]).length ≤ 8 := by rw [List.length_append, HTl.out]; simp; omega
              have hr8 : Hid (∀ x ∈ S.take m ++ [z], inR x) := fun x hx => by
                rcases List.mem_append.1 hx with hx | hx
                · exact HTr.out x hx
                · simp at hx
                  subst hx; exact hz
              go_wp2_with fail
              refine (HOf.out _).mono ?_
              rintro e w5 ⟨rfl, rfl⟩
              go_wp2_with (at_builtin; refine RowKind.Own.pushO (R := R6) (R2 := RR) (ys := [z]) HSp.out HO.out (by decide) HB.out HB.out.size rfl _ _ rfl rfl _ rfl HLen.out ?_; intro v6 w6 hS6 hO6 hB6)
              by_cases hze0 : ze = 0
              · subst hze0
                have HG := Lib.hid (HGo.out _ _ _ HST2.out hj3)
                go_roundg (300 - (j + 1))
                case measure => omega
                case rel => exact ⟨S.take m ++ [z], O, k + 1, 0, j + 1, by first | rfl | go_num, rfl, by go_num, hB6, hS6, hO6, by omega, .inl ⟨rfl, by omega, by omega, hl8, hr8.out, hO8, HG.out, by omega⟩⟩
              · have HE := Lib.hid (HBad.out _ _ _ ze HST2.out hze0 hj3)
                go_roundg 0
                case measure => omega
                case rel => exact ⟨S.take m ++ [z], O, k + 1, ze, j + 1, by go_num, rfl, by go_num, hB6, hS6, hO6, by omega, .inr ⟨hze0, by omega, by omega, HE.out⟩⟩
          · as_aux_lemma =>
              have t0 : W.cell? ⟨b6, 7, none⟩ = some (.int .i64 2) := rowOf_cell HT1w.out 7
              have t1 : W.cell? ⟨b7, 7, none⟩ = some (.int .i64 1) := rowOf_cell HT2w.out 7
              by_cases hA : S.length < 2
              · have hAi : (S.length : Int) < 2 := by omega
                have HE := Lib.hid (HBad.out S O (k + 1) 1 (by unfold stepP; exact if_pos (.inl (show S.length < 2 from hA))) (by decide) hj3)
                generalize S.length = m at *
                clear HBad HGo HFu
                go_wp2
                go_roundg 0
                case measure => omega
                case rel => exact ⟨S, O, k + 1, 1, j + 1, by go_num, rfl, by go_num, HB.out, HS.out, HO.out, by omega, .inr ⟨by decide, by decide, by decide, HE.out⟩⟩
              obtain ⟨m, hm⟩ : ∃ m, S.length = m + 2 := ⟨S.length - 2, by omega⟩
              have hnb : ¬ (S.length < 2 ∨ 8 < S.length - 2 + 1) := by omega
              have hSne : S ≠ [] := fun e => by rw [e] at hm; simp at hm
              rcases HS.out.is with ⟨e, _⟩ | ⟨_, gs, os, cs2, e2, hgs, hrs⟩
              · exact absurd e hSne
              simp only [Value.slice.injEq] at e2
              obtain ⟨rfl, _, rfl⟩ := e2
              have s0 := at6 hrs m (by omega)
              have hy0 := HSr.out S[m]! (by rw [getElem!_pos S m (by omega)]; exact List.getElem_mem (by omega))
              have s1 := at6 hrs (m + 1) (by omega)
              have hy1 := HSr.out S[m + 1]! (by rw [getElem!_pos S (m + 1) (by omega)]; exact List.getElem_mem (by omega))
              have hst : stepP ⟨rk, rv⟩ ⟨7, nn⟩ S O (k + 1) = ((ofN 7 S[m]! S[m + 1]!).2, S.take m ++ [(ofN 7 S[m]! S[m + 1]!).1], O, k + 1) := by
                unfold stepP
                rw [if_neg (show ¬ (S.length < takesN 7 ∨ 8 < S.length - takesN 7 + givesN 7) from hnb)]
                simp [takesN, hm]
              have htl : (S.take m).length = m := by rw [List.length_take]; omega
              have htr : ∀ x ∈ S.take m, inR x := fun x hx => HSr.out x (List.mem_of_mem_take hx)
              rw [hm] at HS
              rw [hm]
              have HSp := Lib.hid (HS.out.part m (by omega))
              have hmc : m ≤ cs := by have := ownCapK HS.out _ _ _ rfl; omega
              generalize S[m]! = y0 at *
              generalize S[m + 1]! = y1 at *
              have HST := Lib.hid hst; have HTr := Lib.hid htr; have HTl := Lib.hid htl
              clear hst htr htl hnb HFu
              go_wp2_with fail
              go_quiet (fail)
              refine gen_q (fun W2 => Below w2.heap.size w2 W2 ∧ R6.Own w2.heap.size W2 (.slice (some ⟨gs, os, none⟩) m cs) (S.take m) ∧ RR.Own w2.heap.size W2 u9 O ∧ W2.cell? ⟨bi, 0, none⟩ = some (.int .i64 7) ∧ W2.cell? ⟨b6, 7, none⟩ = some (.int .i64 2)) ⟨below_drewN HB.out _, HSp.out, HO.out, i0, t0⟩ ?_
              clear i0 i1 r0 r1 t0 t1 s0 s1 hgs hrs HT1w HT2w HIw HRw HB HS HO HSp
              rintro W2 ⟨hB, hS, hO, i0, t0⟩
              have HB := Lib.hid hB; have HSp := Lib.hid hS; have HO := Lib.hid hO
              clear hB hS hO
              have hok := ofN_ok 7 hy0 hy1
              have HOf : Hid (∀ W, Calls Try.prog 14 #[.int .i64 7, .int .i64 y0, .int .i64 y1] W (RetW (ofV2 (ofN 7 y0 y1)) W)) := fun W => rof07_any 7 y0 y1 hy0 hy1 W
              generalize ofN 7 y0 y1 = zz at *
              obtain ⟨z, ze⟩ := zz
              simp only at hok
              obtain ⟨hz, hze⟩ := hok
              have HST2 : Hid (stepP ⟨rk, rv⟩ ⟨7, nn⟩ S O (k + 1) = (ze, S.take m ++ [z], O, k + 1)) := HST.out
              clear HST
              have HLen : Hid ((S.take m).length + 1 ≤ 900000) := by show _ ≤ _; rw [HTl.out]; omega
              have hl8 : (S.take m ++ [z]).length ≤ 8 := by rw [List.length_append, HTl.out]; simp; omega
              have hr8 : Hid (∀ x ∈ S.take m ++ [z], inR x) := fun x hx => by
                rcases List.mem_append.1 hx with hx | hx
                · exact HTr.out x hx
                · simp at hx
                  subst hx; exact hz
              go_wp2_with fail
              refine (HOf.out _).mono ?_
              rintro e w5 ⟨rfl, rfl⟩
              go_wp2_with (at_builtin; refine RowKind.Own.pushO (R := R6) (R2 := RR) (ys := [z]) HSp.out HO.out (by decide) HB.out HB.out.size rfl _ _ rfl rfl _ rfl HLen.out ?_; intro v6 w6 hS6 hO6 hB6)
              by_cases hze0 : ze = 0
              · subst hze0
                have HG := Lib.hid (HGo.out _ _ _ HST2.out hj3)
                go_roundg (300 - (j + 1))
                case measure => omega
                case rel => exact ⟨S.take m ++ [z], O, k + 1, 0, j + 1, by first | rfl | go_num, rfl, by go_num, hB6, hS6, hO6, by omega, .inl ⟨rfl, by omega, by omega, hl8, hr8.out, hO8, HG.out, by omega⟩⟩
              · have HE := Lib.hid (HBad.out _ _ _ ze HST2.out hze0 hj3)
                go_roundg 0
                case measure => omega
                case rel => exact ⟨S.take m ++ [z], O, k + 1, ze, j + 1, by go_num, rfl, by go_num, hB6, hS6, hO6, by omega, .inr ⟨hze0, by omega, by omega, HE.out⟩⟩
          · as_aux_lemma =>
              have t0 : W.cell? ⟨b6, 8, none⟩ = some (.int .i64 2) := rowOf_cell HT1w.out 8
              have t1 : W.cell? ⟨b7, 8, none⟩ = some (.int .i64 1) := rowOf_cell HT2w.out 8
              by_cases hA : S.length < 2
              · have hAi : (S.length : Int) < 2 := by omega
                have HE := Lib.hid (HBad.out S O (k + 1) 1 (by unfold stepP; exact if_pos (.inl (show S.length < 2 from hA))) (by decide) hj3)
                generalize S.length = m at *
                clear HBad HGo HFu
                go_wp2
                go_roundg 0
                case measure => omega
                case rel => exact ⟨S, O, k + 1, 1, j + 1, by go_num, rfl, by go_num, HB.out, HS.out, HO.out, by omega, .inr ⟨by decide, by decide, by decide, HE.out⟩⟩
              obtain ⟨m, hm⟩ : ∃ m, S.length = m + 2 := ⟨S.length - 2, by omega⟩
              have hnb : ¬ (S.length < 2 ∨ 8 < S.length - 2 + 1) := by omega
              have hSne : S ≠ [] := fun e => by rw [e] at hm; simp at hm
              rcases HS.out.is with ⟨e, _⟩ | ⟨_, gs, os, cs2, e2, hgs, hrs⟩
              · exact absurd e hSne
              simp only [Value.slice.injEq] at e2
              obtain ⟨rfl, _, rfl⟩ := e2
              have s0 := at6 hrs m (by omega)
              have hy0 := HSr.out S[m]! (by rw [getElem!_pos S m (by omega)]; exact List.getElem_mem (by omega))
              have s1 := at6 hrs (m + 1) (by omega)
              have hy1 := HSr.out S[m + 1]! (by rw [getElem!_pos S (m + 1) (by omega)]; exact List.getElem_mem (by omega))
              have hst : stepP ⟨rk, rv⟩ ⟨8, nn⟩ S O (k + 1) = ((ofN 8 S[m]! S[m + 1]!).2, S.take m ++ [(ofN 8 S[m]! S[m + 1]!).1], O, k + 1) := by
                unfold stepP
                rw [if_neg (show ¬ (S.length < takesN 8 ∨ 8 < S.length - takesN 8 + givesN 8) from hnb)]
                simp [takesN, hm]
              have htl : (S.take m).length = m := by rw [List.length_take]; omega
              have htr : ∀ x ∈ S.take m, inR x := fun x hx => HSr.out x (List.mem_of_mem_take hx)
              rw [hm] at HS
              rw [hm]
              have HSp := Lib.hid (HS.out.part m (by omega))
              have hmc : m ≤ cs := by have := ownCapK HS.out _ _ _ rfl; omega
              generalize S[m]! = y0 at *
              generalize S[m + 1]! = y1 at *
              have HST := Lib.hid hst; have HTr := Lib.hid htr; have HTl := Lib.hid htl
              clear hst htr htl hnb HFu
              go_wp2_with fail
              go_quiet (fail)
              refine gen_q (fun W2 => Below w2.heap.size w2 W2 ∧ R6.Own w2.heap.size W2 (.slice (some ⟨gs, os, none⟩) m cs) (S.take m) ∧ RR.Own w2.heap.size W2 u9 O ∧ W2.cell? ⟨bi, 0, none⟩ = some (.int .i64 8) ∧ W2.cell? ⟨b6, 8, none⟩ = some (.int .i64 2)) ⟨below_drewN HB.out _, HSp.out, HO.out, i0, t0⟩ ?_
              clear i0 i1 r0 r1 t0 t1 s0 s1 hgs hrs HT1w HT2w HIw HRw HB HS HO HSp
              rintro W2 ⟨hB, hS, hO, i0, t0⟩
              have HB := Lib.hid hB; have HSp := Lib.hid hS; have HO := Lib.hid hO
              clear hB hS hO
              have hok := ofN_ok 8 hy0 hy1
              have HOf : Hid (∀ W, Calls Try.prog 14 #[.int .i64 8, .int .i64 y0, .int .i64 y1] W (RetW (ofV2 (ofN 8 y0 y1)) W)) := fun W => rof07_any 8 y0 y1 hy0 hy1 W
              generalize ofN 8 y0 y1 = zz at *
              obtain ⟨z, ze⟩ := zz
              simp only at hok
              obtain ⟨hz, hze⟩ := hok
              have HST2 : Hid (stepP ⟨rk, rv⟩ ⟨8, nn⟩ S O (k + 1) = (ze, S.take m ++ [z], O, k + 1)) := HST.out
              clear HST
              have HLen : Hid ((S.take m).length + 1 ≤ 900000) := by show _ ≤ _; rw [HTl.out]; omega
              have hl8 : (S.take m ++ [z]).length ≤ 8 := by rw [List.length_append, HTl.out]; simp; omega
              have hr8 : Hid (∀ x ∈ S.take m ++ [z], inR x) := fun x hx => by
                rcases List.mem_append.1 hx with hx | hx
                · exact HTr.out x hx
                · simp at hx
                  subst hx; exact hz
              go_wp2_with fail
              refine (HOf.out _).mono ?_
              rintro e w5 ⟨rfl, rfl⟩
              go_wp2_with (at_builtin; refine RowKind.Own.pushO (R := R6) (R2 := RR) (ys := [z]) HSp.out HO.out (by decide) HB.out HB.out.size rfl _ _ rfl rfl _ rfl HLen.out ?_; intro v6 w6 hS6 hO6 hB6)
              by_cases hze0 : ze = 0
              · subst hze0
                have HG := Lib.hid (HGo.out _ _ _ HST2.out hj3)
                go_roundg (300 - (j + 1))
                case measure => omega
                case rel => exact ⟨S.take m ++ [z], O, k + 1, 0, j + 1, by first | rfl | go_num, rfl, by go_num, hB6, hS6, hO6, by omega, .inl ⟨rfl, by omega, by omega, hl8, hr8.out, hO8, HG.out, by omega⟩⟩
              · have HE := Lib.hid (HBad.out _ _ _ ze HST2.out hze0 hj3)
                go_roundg 0
                case measure => omega
                case rel => exact ⟨S.take m ++ [z], O, k + 1, ze, j + 1, by go_num, rfl, by go_num, hB6, hS6, hO6, by omega, .inr ⟨hze0, by omega, by omega, HE.out⟩⟩
          · as_aux_lemma =>
              have t0 : W.cell? ⟨b6, 9, none⟩ = some (.int .i64 2) := rowOf_cell HT1w.out 9
              have t1 : W.cell? ⟨b7, 9, none⟩ = some (.int .i64 1) := rowOf_cell HT2w.out 9
              by_cases hA : S.length < 2
              · have hAi : (S.length : Int) < 2 := by omega
                have HE := Lib.hid (HBad.out S O (k + 1) 1 (by unfold stepP; exact if_pos (.inl (show S.length < 2 from hA))) (by decide) hj3)
                generalize S.length = m at *
                clear HBad HGo HFu
                go_wp2
                go_roundg 0
                case measure => omega
                case rel => exact ⟨S, O, k + 1, 1, j + 1, by go_num, rfl, by go_num, HB.out, HS.out, HO.out, by omega, .inr ⟨by decide, by decide, by decide, HE.out⟩⟩
              obtain ⟨m, hm⟩ : ∃ m, S.length = m + 2 := ⟨S.length - 2, by omega⟩
              have hnb : ¬ (S.length < 2 ∨ 8 < S.length - 2 + 1) := by omega
              have hSne : S ≠ [] := fun e => by rw [e] at hm; simp at hm
              rcases HS.out.is with ⟨e, _⟩ | ⟨_, gs, os, cs2, e2, hgs, hrs⟩
              · exact absurd e hSne
              simp only [Value.slice.injEq] at e2
              obtain ⟨rfl, _, rfl⟩ := e2
              have s0 := at6 hrs m (by omega)
              have hy0 := HSr.out S[m]! (by rw [getElem!_pos S m (by omega)]; exact List.getElem_mem (by omega))
              have s1 := at6 hrs (m + 1) (by omega)
              have hy1 := HSr.out S[m + 1]! (by rw [getElem!_pos S (m + 1) (by omega)]; exact List.getElem_mem (by omega))
              have hst : stepP ⟨rk, rv⟩ ⟨9, nn⟩ S O (k + 1) = ((ofN 9 S[m]! S[m + 1]!).2, S.take m ++ [(ofN 9 S[m]! S[m + 1]!).1], O, k + 1) := by
                unfold stepP
                rw [if_neg (show ¬ (S.length < takesN 9 ∨ 8 < S.length - takesN 9 + givesN 9) from hnb)]
                simp [takesN, hm]
              have htl : (S.take m).length = m := by rw [List.length_take]; omega
              have htr : ∀ x ∈ S.take m, inR x := fun x hx => HSr.out x (List.mem_of_mem_take hx)
              rw [hm] at HS
              rw [hm]
              have HSp := Lib.hid (HS.out.part m (by omega))
              have hmc : m ≤ cs := by have := ownCapK HS.out _ _ _ rfl; omega
              generalize S[m]! = y0 at *
              generalize S[m + 1]! = y1 at *
              have HST := Lib.hid hst; have HTr := Lib.hid htr; have HTl := Lib.hid htl
              clear hst htr htl hnb HFu
              go_wp2_with fail
              go_quiet (fail)
              refine gen_q (fun W2 => Below w2.heap.size w2 W2 ∧ R6.Own w2.heap.size W2 (.slice (some ⟨gs, os, none⟩) m cs) (S.take m) ∧ RR.Own w2.heap.size W2 u9 O ∧ W2.cell? ⟨bi, 0, none⟩ = some (.int .i64 9) ∧ W2.cell? ⟨b6, 9, none⟩ = some (.int .i64 2)) ⟨below_drewN HB.out _, HSp.out, HO.out, i0, t0⟩ ?_
              clear i0 i1 r0 r1 t0 t1 s0 s1 hgs hrs HT1w HT2w HIw HRw HB HS HO HSp
              rintro W2 ⟨hB, hS, hO, i0, t0⟩
              have HB := Lib.hid hB; have HSp := Lib.hid hS; have HO := Lib.hid hO
              clear hB hS hO
              have hok := ofN_ok 9 hy0 hy1
              have HOf : Hid (∀ W, Calls Try.prog 14 #[.int .i64 9, .int .i64 y0, .int .i64 y1] W (RetW (ofV2 (ofN 9 y0 y1)) W)) := fun W => rof07_any 9 y0 y1 hy0 hy1 W
              generalize ofN 9 y0 y1 = zz at *
              obtain ⟨z, ze⟩ := zz
              simp only at hok
              obtain ⟨hz, hze⟩ := hok
              have HST2 : Hid (stepP ⟨rk, rv⟩ ⟨9, nn⟩ S O (k + 1) = (ze, S.take m ++ [z], O, k + 1)) := HST.out
              clear HST
              have HLen : Hid ((S.take m).length + 1 ≤ 900000) := by show _ ≤ _; rw [HTl.out]; omega
              have hl8 : (S.take m ++ [z]).length ≤ 8 := by rw [List.length_append, HTl.out]; simp; omega
              have hr8 : Hid (∀ x ∈ S.take m ++ [z], inR x) := fun x hx => by
                rcases List.mem_append.1 hx with hx | hx
                · exact HTr.out x hx
                · simp at hx
                  subst hx; exact hz
              go_wp2_with fail
              refine (HOf.out _).mono ?_
              rintro e w5 ⟨rfl, rfl⟩
              go_wp2_with (at_builtin; refine RowKind.Own.pushO (R := R6) (R2 := RR) (ys := [z]) HSp.out HO.out (by decide) HB.out HB.out.size rfl _ _ rfl rfl _ rfl HLen.out ?_; intro v6 w6 hS6 hO6 hB6)
              by_cases hze0 : ze = 0
              · subst hze0
                have HG := Lib.hid (HGo.out _ _ _ HST2.out hj3)
                go_roundg (300 - (j + 1))
                case measure => omega
                case rel => exact ⟨S.take m ++ [z], O, k + 1, 0, j + 1, by first | rfl | go_num, rfl, by go_num, hB6, hS6, hO6, by omega, .inl ⟨rfl, by omega, by omega, hl8, hr8.out, hO8, HG.out, by omega⟩⟩
              · have HE := Lib.hid (HBad.out _ _ _ ze HST2.out hze0 hj3)
                go_roundg 0
                case measure => omega
                case rel => exact ⟨S.take m ++ [z], O, k + 1, ze, j + 1, by go_num, rfl, by go_num, hB6, hS6, hO6, by omega, .inr ⟨hze0, by omega, by omega, HE.out⟩⟩
          · as_aux_lemma =>
              have t0 : W.cell? ⟨b6, 10, none⟩ = some (.int .i64 2) := rowOf_cell HT1w.out 10
              have t1 : W.cell? ⟨b7, 10, none⟩ = some (.int .i64 1) := rowOf_cell HT2w.out 10
              by_cases hA : S.length < 2
              · have hAi : (S.length : Int) < 2 := by omega
                have HE := Lib.hid (HBad.out S O (k + 1) 1 (by unfold stepP; exact if_pos (.inl (show S.length < 2 from hA))) (by decide) hj3)
                generalize S.length = m at *
                clear HBad HGo HFu
                go_wp2
                go_roundg 0
                case measure => omega
                case rel => exact ⟨S, O, k + 1, 1, j + 1, by go_num, rfl, by go_num, HB.out, HS.out, HO.out, by omega, .inr ⟨by decide, by decide, by decide, HE.out⟩⟩
              obtain ⟨m, hm⟩ : ∃ m, S.length = m + 2 := ⟨S.length - 2, by omega⟩
              have hnb : ¬ (S.length < 2 ∨ 8 < S.length - 2 + 1) := by omega
              have hSne : S ≠ [] := fun e => by rw [e] at hm; simp at hm
              rcases HS.out.is with ⟨e, _⟩ | ⟨_, gs, os, cs2, e2, hgs, hrs⟩
              · exact absurd e hSne
              simp only [Value.slice.injEq] at e2
              obtain ⟨rfl, _, rfl⟩ := e2
              have s0 := at6 hrs m (by omega)
              have hy0 := HSr.out S[m]! (by rw [getElem!_pos S m (by omega)]; exact List.getElem_mem (by omega))
              have s1 := at6 hrs (m + 1) (by omega)
              have hy1 := HSr.out S[m + 1]! (by rw [getElem!_pos S (m + 1) (by omega)]; exact List.getElem_mem (by omega))
              have hst : stepP ⟨rk, rv⟩ ⟨10, nn⟩ S O (k + 1) = ((ofN 10 S[m]! S[m + 1]!).2, S.take m ++ [(ofN 10 S[m]! S[m + 1]!).1], O, k + 1) := by
                unfold stepP
                rw [if_neg (show ¬ (S.length < takesN 10 ∨ 8 < S.length - takesN 10 + givesN 10) from hnb)]
                simp [takesN, hm]
              have htl : (S.take m).length = m := by rw [List.length_take]; omega
              have htr : ∀ x ∈ S.take m, inR x := fun x hx => HSr.out x (List.mem_of_mem_take hx)
              rw [hm] at HS
              rw [hm]
              have HSp := Lib.hid (HS.out.part m (by omega))
              have hmc : m ≤ cs := by have := ownCapK HS.out _ _ _ rfl; omega
              generalize S[m]! = y0 at *
              generalize S[m + 1]! = y1 at *
              have HST := Lib.hid hst; have HTr := Lib.hid htr; have HTl := Lib.hid htl
              clear hst htr htl hnb HFu
              go_wp2_with fail
              go_quiet (fail)
              refine gen_q (fun W2 => Below w2.heap.size w2 W2 ∧ R6.Own w2.heap.size W2 (.slice (some ⟨gs, os, none⟩) m cs) (S.take m) ∧ RR.Own w2.heap.size W2 u9 O ∧ W2.cell? ⟨bi, 0, none⟩ = some (.int .i64 10) ∧ W2.cell? ⟨b6, 10, none⟩ = some (.int .i64 2)) ⟨below_drewN HB.out _, HSp.out, HO.out, i0, t0⟩ ?_
              clear i0 i1 r0 r1 t0 t1 s0 s1 hgs hrs HT1w HT2w HIw HRw HB HS HO HSp
              rintro W2 ⟨hB, hS, hO, i0, t0⟩
              have HB := Lib.hid hB; have HSp := Lib.hid hS; have HO := Lib.hid hO
              clear hB hS hO
              have hok := ofN_ok 10 hy0 hy1
              have HOf : Hid (∀ W, Calls Try.prog 14 #[.int .i64 10, .int .i64 y0, .int .i64 y1] W (RetW (ofV2 (ofN 10 y0 y1)) W)) := fun W => rof07_any 10 y0 y1 hy0 hy1 W
              generalize ofN 10 y0 y1 = zz at *
              obtain ⟨z, ze⟩ := zz
              simp only at hok
              obtain ⟨hz, hze⟩ := hok
              have HST2 : Hid (stepP ⟨rk, rv⟩ ⟨10, nn⟩ S O (k + 1) = (ze, S.take m ++ [z], O, k + 1)) := HST.out
              clear HST
              have HLen : Hid ((S.take m).length + 1 ≤ 900000) := by show _ ≤ _; rw [HTl.out]; omega
              have hl8 : (S.take m ++ [z]).length ≤ 8 := by rw [List.length_append, HTl.out]; simp; omega
              have hr8 : Hid (∀ x ∈ S.take m ++ [z], inR x) := fun x hx => by
                rcases List.mem_append.1 hx with hx | hx
                · exact HTr.out x hx
                · simp at hx
                  subst hx; exact hz
              go_wp2_with fail
              refine (HOf.out _).mono ?_
              rintro e w5 ⟨rfl, rfl⟩
              go_wp2_with (at_builtin; refine RowKind.Own.pushO (R := R6) (R2 := RR) (ys := [z]) HSp.out HO.out (by decide) HB.out HB.out.size rfl _ _ rfl rfl _ rfl HLen.out ?_; intro v6 w6 hS6 hO6 hB6)
              by_cases hze0 : ze = 0
              · subst hze0
                have HG := Lib.hid (HGo.out _ _ _ HST2.out hj3)
                go_roundg (300 - (j + 1))
                case measure => omega
                case rel => exact ⟨S.take m ++ [z], O, k + 1, 0, j + 1, by first | rfl | go_num, rfl, by go_num, hB6, hS6, hO6, by omega, .inl ⟨rfl, by omega, by omega, hl8, hr8.out, hO8, HG.out, by omega⟩⟩
              · have HE := Lib.hid (HBad.out _ _ _ ze HST2.out hze0 hj3)
                go_roundg 0
                case measure => omega
                case rel => exact ⟨S.take m ++ [z], O, k + 1, ze, j + 1, by go_num, rfl, by go_num, hB6, hS6, hO6, by omega, .inr ⟨hze0, by omega, by omega, HE.out⟩⟩
          · as_aux_lemma =>
              have t0 : W.cell? ⟨b6, 11, none⟩ = some (.int .i64 1) := rowOf_cell HT1w.out 11
              have t1 : W.cell? ⟨b7, 11, none⟩ = some (.int .i64 2) := rowOf_cell HT2w.out 11
              by_cases hA : S.length < 1
              · have hAi : (S.length : Int) < 1 := by omega
                have HE := Lib.hid (HBad.out S O (k + 1) 1 (by unfold stepP; exact if_pos (.inl (show S.length < 1 from hA))) (by decide) hj3)
                generalize S.length = m at *
                clear HBad HGo HFu
                go_wp2
                go_roundg 0
                case measure => omega
                case rel => exact ⟨S, O, k + 1, 1, j + 1, by go_num, rfl, by go_num, HB.out, HS.out, HO.out, by omega, .inr ⟨by decide, by decide, by decide, HE.out⟩⟩
              by_cases hA2 : 8 < S.length - 1 + 2
              · have hAi : ¬ (S.length : Int) < 1 := by omega
                have hAj : (S.length : Int) - 1 + 2 > 8 := by omega
                have HE := Lib.hid (HBad.out S O (k + 1) 1 (by unfold stepP; exact if_pos (.inr (show 8 < S.length - 1 + 2 by omega))) (by decide) hj3)
                generalize S.length = m at *
                clear HBad HGo HFu
                go_wp2
                go_roundg 0
                case measure => omega
                case rel => exact ⟨S, O, k + 1, 1, j + 1, by go_num, rfl, by go_num, HB.out, HS.out, HO.out, by omega, .inr ⟨by decide, by decide, by decide, HE.out⟩⟩
              obtain ⟨m, hm⟩ : ∃ m, S.length = m + 1 := ⟨S.length - 1, by omega⟩
              have hnb : ¬ (S.length < 1 ∨ 8 < S.length - 1 + 2) := by omega
              have hSne : S ≠ [] := fun e => by rw [e] at hm; simp at hm
              rcases HS.out.is with ⟨e, _⟩ | ⟨_, gs, os, cs2, e2, hgs, hrs⟩
              · exact absurd e hSne
              simp only [Value.slice.injEq] at e2
              obtain ⟨rfl, _, rfl⟩ := e2
              have s0 := at6 hrs m (by omega)
              have hy0 := HSr.out S[m]! (by rw [getElem!_pos S m (by omega)]; exact List.getElem_mem (by omega))
              have hst : stepP ⟨rk, rv⟩ ⟨11, nn⟩ S O (k + 1) = (0, S.take m ++ [S[m]!, S[m]!], O, k + 1) := by
                unfold stepP
                rw [if_neg (show ¬ (S.length < takesN 11 ∨ 8 < S.length - takesN 11 + givesN 11) from hnb)]
                simp [takesN, hm]
              have htl : (S.take m).length = m := by rw [List.length_take]; omega
              have htr : ∀ x ∈ S.take m, inR x := fun x hx => HSr.out x (List.mem_of_mem_take hx)
              rw [hm] at HS
              rw [hm]
              have HSp := Lib.hid (HS.out.part m (by omega))
              have hmc : m ≤ cs := by have := ownCapK HS.out _ _ _ rfl; omega
              generalize S[m]! = y0 at *
              have HST := Lib.hid hst; have HTr := Lib.hid htr; have HTl := Lib.hid htl
              clear hst htr htl hnb HFu
              have HG := Lib.hid (HGo.out _ _ _ HST.out hj3)
              clear HBad HGo HST
              have HLen : Hid ((S.take m).length + 2 ≤ 900000) := by show _ ≤ _; rw [HTl.out]; omega
              have hl8 : (S.take m ++ [y0, y0]).length ≤ 8 := by rw [List.length_append, HTl.out]; simp; omega
              have hr8 : Hid (∀ x ∈ S.take m ++ [y0, y0], inR x) := fun x hx => by
                rcases List.mem_append.1 hx with hx | hx
                · exact HTr.out x hx
                · simp at hx
                  subst hx; exact hy0
              go_wp2_with (at_builtin; refine RowKind.Own.pushO (R := R6) (R2 := RR) (ys := [y0, y0]) HSp.out HO.out (by decide) HB.out HB.out.size rfl _ _ rfl rfl _ rfl HLen.out ?_; intro v6 w6 hS6 hO6 hB6)
              go_roundg (300 - (j + 1))
              case measure => omega
              case rel => exact ⟨S.take m ++ [y0, y0], O, k + 1, 0, j + 1, by first | rfl | go_num, rfl, by go_num, hB6, hS6, hO6, by omega, .inl ⟨rfl, by omega, by omega, hl8, hr8.out, hO8, HG.out, by omega⟩⟩
          · as_aux_lemma =>
              have t0 : W.cell? ⟨b6, 12, none⟩ = some (.int .i64 2) := rowOf_cell HT1w.out 12
              have t1 : W.cell? ⟨b7, 12, none⟩ = some (.int .i64 2) := rowOf_cell HT2w.out 12
              by_cases hA : S.length < 2
              · have hAi : (S.length : Int) < 2 := by omega
                have HE := Lib.hid (HBad.out S O (k + 1) 1 (by unfold stepP; exact if_pos (.inl (show S.length < 2 from hA))) (by decide) hj3)
                generalize S.length = m at *
                clear HBad HGo HFu
                go_wp2
                go_roundg 0
                case measure => omega
                case rel => exact ⟨S, O, k + 1, 1, j + 1, by go_num, rfl, by go_num, HB.out, HS.out, HO.out, by omega, .inr ⟨by decide, by decide, by decide, HE.out⟩⟩
              obtain ⟨m, hm⟩ : ∃ m, S.length = m + 2 := ⟨S.length - 2, by omega⟩
              have hnb : ¬ (S.length < 2 ∨ 8 < S.length - 2 + 2) := by omega
              have hSne : S ≠ [] := fun e => by rw [e] at hm; simp at hm
              rcases HS.out.is with ⟨e, _⟩ | ⟨_, gs, os, cs2, e2, hgs, hrs⟩
              · exact absurd e hSne
              simp only [Value.slice.injEq] at e2
              obtain ⟨rfl, _, rfl⟩ := e2
              have s0 := at6 hrs m (by omega)
              have hy0 := HSr.out S[m]! (by rw [getElem!_pos S m (by omega)]; exact List.getElem_mem (by omega))
              have s1 := at6 hrs (m + 1) (by omega)
              have hy1 := HSr.out S[m + 1]! (by rw [getElem!_pos S (m + 1) (by omega)]; exact List.getElem_mem (by omega))
              have hst : stepP ⟨rk, rv⟩ ⟨12, nn⟩ S O (k + 1) = (0, S.take m ++ [S[m + 1]!, S[m]!], O, k + 1) := by
                unfold stepP
                rw [if_neg (show ¬ (S.length < takesN 12 ∨ 8 < S.length - takesN 12 + givesN 12) from hnb)]
                simp [takesN, hm]
              have htl : (S.take m).length = m := by rw [List.length_take]; omega
              have htr : ∀ x ∈ S.take m, inR x := fun x hx => HSr.out x (List.mem_of_mem_take hx)
              rw [hm] at HS
              rw [hm]
              have HSp := Lib.hid (HS.out.part m (by omega))
              have hmc : m ≤ cs := by have := ownCapK HS.out _ _ _ rfl; omega
              generalize S[m]! = y0 at *
              generalize S[m + 1]! = y1 at *
              have HST := Lib.hid hst; have HTr := Lib.hid htr; have HTl := Lib.hid htl
              clear hst htr htl hnb HFu
              go_wp2_with fail
              go_quiet (fail)
              refine gen_q (fun W2 => Below w2.heap.size w2 W2 ∧ R6.Own w2.heap.size W2 (.slice (some ⟨gs, os, none⟩) m cs) (S.take m) ∧ RR.Own w2.heap.size W2 u9 O ∧ W2.cell? ⟨bi, 0, none⟩ = some (.int .i64 12) ∧ W2.cell? ⟨b6, 12, none⟩ = some (.int .i64 2)) ⟨below_drewN HB.out _, HSp.out, HO.out, i0, t0⟩ ?_
              clear i0 i1 r0 r1 t0 t1 s0 s1 hgs hrs HT1w HT2w HIw HRw HB HS HO HSp
              rintro W2 ⟨hB, hS, hO, i0, t0⟩
              have HB := Lib.hid hB; have HSp := Lib.hid hS; have HO := Lib.hid hO
              clear hB hS hO
              have HG := Lib.hid (HGo.out _ _ _ HST.out hj3)
              clear HBad HGo HST
              have HLen : Hid ((S.take m).length + 2 ≤ 900000) := by show _ ≤ _; rw [HTl.out]; omega
              have hl8 : (S.take m ++ [y1, y0]).length ≤ 8 := by rw [List.length_append, HTl.out]; simp; omega
              have hr8 : Hid (∀ x ∈ S.take m ++ [y1, y0], inR x) := fun x hx => by
                rcases List.mem_append.1 hx with hx | hx
                · exact HTr.out x hx
                · simp at hx
                  rcases hx with rfl | rfl; exact hy1; exact hy0
              go_wp2_with (at_builtin; refine RowKind.Own.pushO (R := R6) (R2 := RR) (ys := [y1, y0]) HSp.out HO.out (by decide) HB.out HB.out.size rfl _ _ rfl rfl _ rfl HLen.out ?_; intro v6 w6 hS6 hO6 hB6)
              go_roundg (300 - (j + 1))
              case measure => omega
              case rel => exact ⟨S.take m ++ [y1, y0], O, k + 1, 0, j + 1, by first | rfl | go_num, rfl, by go_num, hB6, hS6, hO6, by omega, .inl ⟨rfl, by omega, by omega, hl8, hr8.out, hO8, HG.out, by omega⟩⟩
          · as_aux_lemma =>
              have t0 : W.cell? ⟨b6, 13, none⟩ = some (.int .i64 1) := rowOf_cell HT1w.out 13
              have t1 : W.cell? ⟨b7, 13, none⟩ = some (.int .i64 0) := rowOf_cell HT2w.out 13
              by_cases hA : S.length < 1
              · have hAi : (S.length : Int) < 1 := by omega
                have HE := Lib.hid (HBad.out S O (k + 1) 1 (by unfold stepP; exact if_pos (.inl (show S.length < 1 from hA))) (by decide) hj3)
                generalize S.length = m at *
                clear HBad HGo HFu
                go_wp2
                go_roundg 0
                case measure => omega
                case rel => exact ⟨S, O, k + 1, 1, j + 1, by go_num, rfl, by go_num, HB.out, HS.out, HO.out, by omega, .inr ⟨by decide, by decide, by decide, HE.out⟩⟩
              obtain ⟨m, hm⟩ : ∃ m, S.length = m + 1 := ⟨S.length - 1, by omega⟩
              have hnb : ¬ (S.length < 1 ∨ 8 < S.length - 1 + 0) := by omega
              have hSne : S ≠ [] := fun e => by rw [e] at hm; simp at hm
              rcases HS.out.is with ⟨e, _⟩ | ⟨_, gs, os, cs2, e2, hgs, hrs⟩
              · exact absurd e hSne
              simp only [Value.slice.injEq] at e2
              obtain ⟨rfl, _, rfl⟩ := e2
              have s0 := at6 hrs m (by omega)
              have hy0 := HSr.out S[m]! (by rw [getElem!_pos S m (by omega)]; exact List.getElem_mem (by omega))
              have hst : stepP ⟨rk, rv⟩ ⟨13, nn⟩ S O (k + 1) = (0, S.take m, O, k + 1) := by
                unfold stepP
                rw [if_neg (show ¬ (S.length < takesN 13 ∨ 8 < S.length - takesN 13 + givesN 13) from hnb)]
                simp [takesN, hm]
              have htl : (S.take m).length = m := by rw [List.length_take]; omega
              have htr : ∀ x ∈ S.take m, inR x := fun x hx => HSr.out x (List.mem_of_mem_take hx)
              rw [hm] at HS
              rw [hm]
              have HSp := Lib.hid (HS.out.part m (by omega))
              have hmc : m ≤ cs := by have := ownCapK HS.out _ _ _ rfl; omega
              generalize S[m]! = y0 at *
              have HST := Lib.hid hst; have HTr := Lib.hid htr; have HTl := Lib.hid htl
              clear hst htr htl hnb HFu
              have HG := Lib.hid (HGo.out _ _ _ HST.out hj3)
              have hl8 : (S.take m).length ≤ 8 := by rw [HTl.out]; omega
              clear HBad HGo HST
              go_wp2
              go_roundg (300 - (j + 1))
              case measure => omega
              case rel => exact ⟨S.take m, O, k + 1, 0, j + 1, by first | rfl | go_num, rfl, by go_num, HB.out, HSp.out, HO.out, by omega, .inl ⟨rfl, by omega, by omega, hl8, HTr.out, hO8, HG.out, by omega⟩⟩
          · as_aux_lemma =>
              have t0 : W.cell? ⟨b6, 14, none⟩ = some (.int .i64 0) := rowOf_cell HT1w.out 14
              have t1 : W.cell? ⟨b7, 14, none⟩ = some (.int .i64 0) := rowOf_cell HT2w.out 14
              obtain ⟨m, hm⟩ : ∃ m, S.length = m + 0 := ⟨S.length - 0, by omega⟩
              have hnb : ¬ (S.length < 0 ∨ 8 < S.length - 0 + 0) := by omega
              have hst : stepP ⟨rk, rv⟩ ⟨14, nn⟩ S O (k + 1) = (0, S.take m, O, nn.toNat) := by
                unfold stepP
                rw [if_neg (show ¬ (S.length < takesN 14 ∨ 8 < S.length - takesN 14 + givesN 14) from hnb)]
                simp [takesN, hm]
              have htl : (S.take m).length = m := by rw [List.length_take]; omega
              have htr : ∀ x ∈ S.take m, inR x := fun x hx => HSr.out x (List.mem_of_mem_take hx)
              rw [hm] at HS
              rw [hm]
              have HSp := Lib.hid (HS.out.part m (by omega))
              have hmc : m ≤ cs := by have := ownCapK HS.out _ _ _ rfl; omega
              have HST := Lib.hid hst; have HTr := Lib.hid htr; have HTl := Lib.hid htl
              clear hst htr htl hnb HFu
              obtain ⟨hn0, hn1⟩ := ho3 (by omega)
              obtain ⟨nv, rfl⟩ := Int.eq_ofNat_of_zero_le hn0
              have HG := Lib.hid (HGo.out _ _ _ HST.out hj3)
              rw [Int.toNat_natCast] at HG
              have hl8 : (S.take m).length ≤ 8 := by rw [HTl.out]; omega
              clear HBad HGo HST ho3 ho4
              go_wp2
              go_roundg (300 - (j + 1))
              case measure => omega
              case rel => exact ⟨S.take m, O, nv, 0, j + 1, by first | rfl | go_num, rfl, by go_num, HB.out, HSp.out, HO.out, by omega, .inl ⟨rfl, by omega, by omega, hl8, HTr.out, hO8, HG.out, by omega⟩⟩
          · as_aux_lemma =>
              have t0 : W.cell? ⟨b6, 15, none⟩ = some (.int .i64 1) := rowOf_cell HT1w.out 15
              have t1 : W.cell? ⟨b7, 15, none⟩ = some (.int .i64 0) := rowOf_cell HT2w.out 15
              by_cases hA : S.length < 1
              · have hAi : (S.length : Int) < 1 := by omega
                have HE := Lib.hid (HBad.out S O (k + 1) 1 (by unfold stepP; exact if_pos (.inl (show S.length < 1 from hA))) (by decide) hj3)
                generalize S.length = m at *
                clear HBad HGo HFu
                go_wp2
                go_roundg 0
                case measure => omega
                case rel => exact ⟨S, O, k + 1, 1, j + 1, by go_num, rfl, by go_num, HB.out, HS.out, HO.out, by omega, .inr ⟨by decide, by decide, by decide, HE.out⟩⟩
              obtain ⟨m, hm⟩ : ∃ m, S.length = m + 1 := ⟨S.length - 1, by omega⟩
              have hnb : ¬ (S.length < 1 ∨ 8 < S.length - 1 + 0) := by omega
              have hSne : S ≠ [] := fun e => by rw [e] at hm; simp at hm
              rcases HS.out.is with ⟨e, _⟩ | ⟨_, gs, os, cs2, e2, hgs, hrs⟩
              · exact absurd e hSne
              simp only [Value.slice.injEq] at e2
              obtain ⟨rfl, _, rfl⟩ := e2
              have s0 := at6 hrs m (by omega)
              have hy0 := HSr.out S[m]! (by rw [getElem!_pos S m (by omega)]; exact List.getElem_mem (by omega))
              have hst : stepP ⟨rk, rv⟩ ⟨15, nn⟩ S O (k + 1) = (0, S.take m, O, if S[m]! = 0 then nn.toNat else k + 1) := by
                unfold stepP
                rw [if_neg (show ¬ (S.length < takesN 15 ∨ 8 < S.length - takesN 15 + givesN 15) from hnb)]
                simp [takesN, hm]
              have htl : (S.take m).length = m := by rw [List.length_take]; omega
              have htr : ∀ x ∈ S.take m, inR x := fun x hx => HSr.out x (List.mem_of_mem_take hx)
              rw [hm] at HS
              rw [hm]
              have HSp := Lib.hid (HS.out.part m (by omega))
              have hmc : m ≤ cs := by have := ownCapK HS.out _ _ _ rfl; omega
              generalize S[m]! = y0 at *
              have HST := Lib.hid hst; have HTr := Lib.hid htr; have HTl := Lib.hid htl
              clear hst htr htl hnb HFu
              obtain ⟨hn0, hn1⟩ := ho3 (by omega)
              obtain ⟨nv, rfl⟩ := Int.eq_ofNat_of_zero_le hn0
              have hg := HGo.out _ _ _ HST.out hj3
              have hl8 : (S.take m).length ≤ 8 := by rw [HTl.out]; omega
              clear HBad HGo HST ho3 ho4
              by_cases hz : y0 = 0
              · have hzb : (y0 == 0) = true := by simpa using hz
                rw [if_pos hz, Int.toNat_natCast] at hg
                have HG := Lib.hid hg
                clear hg hz
                go_wp2
                go_roundg (300 - (j + 1))
                case measure => omega
                case rel => exact ⟨S.take m, O, nv, 0, j + 1, by first | rfl | go_num, rfl, by go_num, HB.out, HSp.out, HO.out, by omega, .inl ⟨rfl, by omega, by omega, hl8, HTr.out, hO8, HG.out, by omega⟩⟩
              · have hzb : (y0 == 0) = false := by simpa using hz
                rw [if_neg hz] at hg
                have HG := Lib.hid hg
                clear hg hz
                go_wp2
                go_roundg (300 - (j + 1))
                case measure => omega
                case rel => exact ⟨S.take m, O, k + 1, 0, j + 1, by first | rfl | go_num, rfl, by go_num, HB.out, HSp.out, HO.out, by omega, .inl ⟨rfl, by omega, by omega, hl8, HTr.out, hO8, HG.out, by omega⟩⟩
          · as_aux_lemma =>
              have t0 : W.cell? ⟨b6, 16, none⟩ = some (.int .i64 2) := rowOf_cell HT1w.out 16
              have t1 : W.cell? ⟨b7, 16, none⟩ = some (.int .i64 0) := rowOf_cell HT2w.out 16
              by_cases hA : S.length < 2
              · have hAi : (S.length : Int) < 2 := by omega
                have HE := Lib.hid (HBad.out S O (k + 1) 1 (by unfold stepP; exact if_pos (.inl (show S.length < 2 from hA))) (by decide) hj3)
                generalize S.length = m at *
                clear HBad HGo HFu
                go_wp2
                go_roundg 0
                case measure => omega
                case rel => exact ⟨S, O, k + 1, 1, j + 1, by go_num, rfl, by go_num, HB.out, HS.out, HO.out, by omega, .inr ⟨by decide, by decide, by decide, HE.out⟩⟩
              obtain ⟨m, hm⟩ : ∃ m, S.length = m + 2 := ⟨S.length - 2, by omega⟩
              have hnb : ¬ (S.length < 2 ∨ 8 < S.length - 2 + 0) := by omega
              have hSne : S ≠ [] := fun e => by rw [e] at hm; simp at hm
              rcases HS.out.is with ⟨e, _⟩ | ⟨_, gs, os, cs2, e2, hgs, hrs⟩
              · exact absurd e hSne
              simp only [Value.slice.injEq] at e2
              obtain ⟨rfl, _, rfl⟩ := e2
              have s0 := at6 hrs m (by omega)
              have hy0 := HSr.out S[m]! (by rw [getElem!_pos S m (by omega)]; exact List.getElem_mem (by omega))
              have s1 := at6 hrs (m + 1) (by omega)
              have hy1 := HSr.out S[m + 1]! (by rw [getElem!_pos S (m + 1) (by omega)]; exact List.getElem_mem (by omega))
              have hst : stepP ⟨rk, rv⟩ ⟨16, nn⟩ S O (k + 1) = (if O.length = 8 then 5 else 0, S.take m, O ++ [⟨S[m]!, S[m + 1]!⟩], k + 1) := by
                unfold stepP
                rw [if_neg (show ¬ (S.length < takesN 16 ∨ 8 < S.length - takesN 16 + givesN 16) from hnb)]
                simp [takesN, hm]
              have htl : (S.take m).length = m := by rw [List.length_take]; omega
              have htr : ∀ x ∈ S.take m, inR x := fun x hx => HSr.out x (List.mem_of_mem_take hx)
              rw [hm] at HS
              rw [hm]
              have HSp := Lib.hid (HS.out.part m (by omega))
              have hmc : m ≤ cs := by have := ownCapK HS.out _ _ _ rfl; omega
              generalize S[m]! = y0 at *
              generalize S[m + 1]! = y1 at *
              have HST := Lib.hid hst; have HTr := Lib.hid htr; have HTl := Lib.hid htl
              clear hst htr htl hnb HFu
              go_wp2_with fail
              go_quiet (fail)
              refine gen_q (fun W2 => Below w2.heap.size w2 W2 ∧ R6.Own w2.heap.size W2 (.slice (some ⟨gs, os, none⟩) m cs) (S.take m) ∧ RR.Own w2.heap.size W2 u9 O ∧ W2.cell? ⟨bi, 0, none⟩ = some (.int .i64 16) ∧ W2.cell? ⟨b6, 16, none⟩ = some (.int .i64 2)) ⟨below_drewN HB.out _, HSp.out, HO.out, i0, t0⟩ ?_
              clear i0 i1 r0 r1 t0 t1 s0 s1 hgs hrs HT1w HT2w HIw HRw HB HS HO HSp
              rintro W2 ⟨hB, hS, hO, i0, t0⟩
              have HB := Lib.hid hB; have HSp := Lib.hid hS; have HO := Lib.hid hO
              clear hB hS hO
              obtain ⟨po, co, rfl⟩ := HO.out.is.slice
              have hl8 : (S.take m).length ≤ 8 := by rw [HTl.out]; omega
              have HLen : Hid (O.length + 1 ≤ 900000) := by show _ ≤ _; omega
              have HOl : Hid (RR.Own w2.heap.size W2 (.slice po O.length co) O) := HO.out
              by_cases h8 : O.length = 8
              · have hst := HST.out
                rw [if_pos h8] at hst
                have HE := Lib.hid (HBad.out _ _ _ 5 hst (by decide) hj3)
                clear hst HBad HGo HST
                generalize hOl : O.length = ol at *
                have hob : ((ol : Int) == 8) = true := by simp; omega
                have HLen : Hid (O.length + 1 ≤ 900000) := by show _ ≤ _; omega
                have HOn := Lib.hid hOl
                clear hOl
                go_wp2_with (at_builtin; refine RowKind.Own.pushO (R := RR) (R2 := R6) (ys := [⟨y0, y1⟩]) HOl.out HSp.out (by decide) HB.out HB.out.size rfl _ _ rfl rfl _ rfl HLen.out ?_; intro v6 w6 hO6 hS6 hB6)
                go_roundg 0
                case measure => omega
                case rel => exact ⟨S.take m, O ++ [(⟨y0, y1⟩ : RV)], k + 1, 5, j + 1, by go_num, rfl, by go_num, hB6, hS6, hO6, by omega, .inr ⟨by decide, by decide, by decide, HE.out⟩⟩
              · have hst := HST.out
                rw [if_neg h8] at hst
                have HG := Lib.hid (HGo.out _ _ _ hst hj3)
                have ho8 : (O ++ [(⟨y0, y1⟩ : RV)]).length ≤ 8 := by rw [List.length_append]; simp; omega
                clear hst HBad HGo HST
                generalize hOl : O.length = ol at *
                have hob : ((ol : Int) == 8) = false := by simp; omega
                have HLen : Hid (O.length + 1 ≤ 900000) := by show _ ≤ _; omega
                have HOn := Lib.hid hOl
                clear hOl
                go_wp2_with (at_builtin; refine RowKind.Own.pushO (R := RR) (R2 := R6) (ys := [⟨y0, y1⟩]) HOl.out HSp.out (by decide) HB.out HB.out.size rfl _ _ rfl rfl _ rfl HLen.out ?_; intro v6 w6 hO6 hS6 hB6)
                go_roundg (300 - (j + 1))
                case measure => omega
                case rel => exact ⟨S.take m, O ++ [(⟨y0, y1⟩ : RV)], k + 1, 0, j + 1, by first | rfl | go_num, rfl, by go_num, hB6, hS6, hO6, by omega, .inl ⟨rfl, by omega, by omega, hl8, HTr.out, ho8, HG.out, by omega⟩⟩
      · have hlz : ¬ (k : Int) < (n : Int) := by omega
        have hq := HC.out
        rw [runP_end (by rw [HN.out]; omega)] at hq
        subst hq
        clear hrow HAll HPn HC
        go_wp2
        go_returns
        exact ⟨_, rfl, HO.out.mono HB2.out.size, HB2.out.trans (HB.out.mono HB2.out.size)⟩
    · have heb : (e == 0) = false := by simpa using he0
      have hen : (e != 0) = true := by simpa using he0
      have hRb := rowOf_below HRb.out HB.out (rowOf_lt HRb.out)
      have r0 : wr.cell? ⟨w.heap.size, 0, none⟩ = some (.int .i64 rk) := rowOf_cell hRb 0
      have hq := HE.out
      subst hq
      have HBf := Lib.hid (HB2.out.trans (HB.out.mono HB2.out.size))
      clear hrow HAll HPn hRb
      have HOw : Hid (RR.Own w.heap.size (wr.alloc (.cells #[.int .i64 rk, .int .i64 (-9223372036854775808 + e)] 24)) (.slice (some ⟨wr.heap.size, 0, none⟩) 1 1) [⟨rk, -9223372036854775808 + e⟩]) := World.ownsRow_lit wr _ 1 HBf.out.size (by unfold maxLen; omega) rfl
      go_wp2
      all_goals go_returns
      all_goals exact ⟨_, rfl, HOw.out, HBf.out.alloc HBf.out.size _⟩
set_option maxRecDepth 100000 in
set_option maxHeartbeats 4000000 in
theorem rrun_nil (q : Option Addr) (cap : Nat) (rk rv : Int) (w : World) : Calls Try.prog 10 #[.slice q 0 cap, .agg #[.int .i64 rk, .int .i64 rv]] w (RunR [] ⟨rk, rv⟩ w) := by
  have hres : runC [] ⟨rk, rv⟩ = ([], 0) := rfl
  unfold RunR
  rw [hres]
  have hbox := Below.alloc (Below.refl w.heap.size w) (Nat.le_refl _) (.cells #[.int .i64 rk, .int .i64 rv] 24)
  have HRT : Hid (∀ W, Calls Try.prog 12 #[.slice q 0 cap] W (Ret (.bool true) W)) := fun W => rright_nil q cap W
  have HB0 := Lib.hid hbox
  clear hbox hres
  go_enter Try.func10, Try.ntmps10
  go_wp2_with fail
  refine (HRT.out _).mono ?_
  rintro e w1 ⟨rfl, hb1⟩
  have HB1 := Lib.hid (HB0.out.trans (hb1.mono HB0.out.size))
  clear hb1 HRT HB0
  go_wp2_with fail
  refine wp_loop_rounds 1 ?_
  rw [rounds_succ]
  go_wp2
  go_returns
  exact ⟨_, rfl, RowKind.Own.nil RR _ _, (HB1.out.alloc HB1.out.size _).alloc (by have := HB1.out.size; simp; omega) _⟩
theorem rrun_any (p : List NV) (v : Value) (rk rv : Int) (w : World) (hl : p.length ≤ 900000) (h : RC.Is w v p) (hpn : ∀ x ∈ p, inR x.n) (hrk : inR rk) (hrv : inR rv) :
    Calls Try.prog 10 #[v, .agg #[.int .i64 rk, .int .i64 rv]] w (RunR p ⟨rk, rv⟩ w) := by
  rcases h with ⟨rfl, q, cap, rfl, _⟩ | ⟨h0, b, off, cap, rfl, hb, hr⟩
  · exact rrun_nil q cap rk rv w
  · exact rrun_row p rk rv b off cap w hl h0 hb hr hpn hrk hrv
end Go.Proofs.Ytcflfakffeglgaa
