/- the document's Take -/
import Derived.Test.YtdgnblkoohakeaaUzc
import Derived.Test.YtdgnblkoohakeaaUmg
import Derived.Deep.RegionLaw
namespace Go.Proofs.Ytdgnblkoohakeaa
open Go.RowKit
set_option linter.unusedVariables false
set_option linter.unusedSimpArgs false
attribute [local go_sem ↓] storeM
attribute [local go_sem] rowAt_head one_int one_bool

theorem capB_freeT {B : Nat} {w : World} {v : Value} {xs : List BW} (h : RB4.Free B w v xs) : capOk v := by
  rcases h with h | ⟨_, ad, rfl⟩
  · exact capB_own h
  · intro p n c e; cases e; exact Nat.le_refl _
theorem free_keepT {B : Nat} {w w' : World} {v : Value} {xs : List BW} (h : RB4.Free B w v xs) (hk : ∀ k, B ≤ k → k < w.heap.size → w'.heap[k]? = w.heap[k]?) : RB4.Free B w' v xs := by
  rcases h with h | h
  · exact .inl (h.keepK fun b hb => hk b (h.lt b hb).1 (h.lt b hb).2)
  · exact .inr h
theorem areBx.takeT {w : World} {xs : List BW} {n : List BV} (h : areBx w xs n) (k : Nat) : areBx w (xs.take k) (n.take k) := by
  refine ⟨by rw [List.length_take, List.length_take, h.1], fun i hi => ?_⟩
  have hl := hi
  rw [List.length_take] at hl
  have e1 : (xs.take k)[i]! = xs[i]! := by rw [getElem!_pos _ i (by rw [List.length_take, h.1]; exact hl), getElem!_pos xs i (by rw [h.1]; omega), List.getElem_take]
  have e2 : (n.take k)[i]! = n[i]! := by rw [getElem!_pos _ i hi, getElem!_pos n i (by omega), List.getElem_take]
  rw [e1, e2]
  exact h.2 i (by omega)
theorem Boxed.setR {w : World} {b : Nat} {c c' : Array Value} {t : TypeId} (h : Boxed w b c t) : Boxed (setRow w b c') b c' t := RowKind.heap_set h
theorem is_takeM {w : World} {b o c : Nat} {xs : List MV} {a : Nat} (hb : b < w.heap.size) (hr : RM.Row w b o xs) (ha : a ≤ xs.length) : RM.Is w (.slice (some ⟨b, o, none⟩) a c) (xs.take a) := by
  have hl : (xs.take a).length = a := by rw [List.length_take]; omega
  by_cases h0 : a = 0
  · subst h0; exact .inl ⟨by simp, some ⟨b, o, none⟩, c, rfl, fun e => by cases e⟩
  · refine .inr ⟨fun e => h0 (by rw [e] at hl; simpa using hl.symm), b, o, c, by rw [hl], hb, fun j hj i u hu => hr j (by omega) i u ?_⟩
    rw [← hu, getElem!_pos (xs.take a) j hj, getElem!_pos xs j (by omega), List.getElem_take]
theorem is_dropM {w : World} {b o c : Nat} {xs : List MV} {a : Nat} (hb : b < w.heap.size) (hr : RM.Row w b o xs) (ha : a ≤ xs.length) : RM.Is w (.slice (some ⟨b, o + a * 10, none⟩) (xs.length - a) c) (xs.drop a) := by
  have hl : (xs.drop a).length = xs.length - a := by rw [List.length_drop]
  by_cases h0 : xs.length - a = 0
  · rw [h0]; exact .inl ⟨List.drop_of_length_le (by omega), some ⟨b, o + a * 10, none⟩, c, rfl, fun e => by cases e⟩
  · refine .inr ⟨fun e => h0 (by rw [e] at hl; simpa using hl.symm), b, o + a * 10, c, by rw [hl], hb, fun j hj i u hu => ?_⟩
    have hk : RM.k = 10 := rfl
    have := hr (a + j) (by omega) i u (by rw [← hu, getElem!_pos (xs.drop a) j hj, getElem!_pos xs (a + j) (by omega), List.getElem_drop])
    rw [hk] at this ⊢
    rw [← this, Nat.add_mul]
    congr 2
    omega
/-- the state of the loop -/
structure TS (w W4 : World) (bm : Nat) (xs0 : List BW) (n : List BV) (e f t : Int) (j : Nat) (v13 : Value) (hit : Bool) (k : Nat) (wr : World) : Prop where
  ex : (hit = false ∧ RB4.Own W4.heap.size wr v13 (xs0.take k) ∧ Boxed wr bm (mvRow mv0) 29 ∧ ∀ i, i < k → isB n[i]! e f t = false) ∨
    (hit = true ∧ Boxed wr bm (mvRow (listL n e f t)[j]!) 29 ∧ ∃ outN, OutG (fun x => x = w.heap.size) W4.heap.size wr v13 outN ∧ outN.length ≤ k ∧ outN ++ n.drop k = takeL n e f t j ∧ ∀ i, k ≤ i → i < n.length → isB n[i]! e f t = false)
  below : Below w.heap.size w wr
  big : W4.heap.size ≤ wr.heap.size
  res : Boxed wr w.heap.size (mvRow mv0) 29
set_option maxRecDepth 100000 in
set_option maxHeartbeats 16000000 in
theorem utake_any (n : List BV) (v : Value) (e f t i : Int) (w : World) (hl : SmallN n) (h : IsBs w v n) : Calls Try.prog 14 #[v, .int .i64 e, .int .i64 f, .int .i64 t, .int .i64 i] w (fun x W' => ∃ u, x = .returned (.tuple #[u, MV.val (takeM n e f t i), .bool (takeOk n e f t i)]) ∧ IsBs W' u (takeN n e f t i) ∧ capOk u ∧ Below w.heap.size w W') := by
  have HLen := Lib.hid (fun W hW => ulen_any n v e f t W (by have := hl.1; omega) (h.below hW))
  have HIs := Lib.hid (fun a1 a2 a3 a4 b1 b2 b3 W => uis_any a1 a2 a3 a4 b1 b2 b3 W)
  obtain ⟨xs0, hx0, hx1⟩ := h
  have HIs0 := Lib.hid hx0
  have HAr := Lib.hid hx1
  obtain ⟨p, c, rfl, ho⟩ := isOpenedU hx0
  have HO := Lib.hid ho
  have HXn : Hid (xs0.length = n.length) := hx1.1
  have hN1 : n.length ≤ 1000 := hl.1
  have HL5n : Hid (∀ b ∈ n, b.l.length ≤ 5000) := hl.2
  clear hx0 hx1 ho hl
  go_enter Try.func14, Try.ntmps14
  go_upto_region 1 with (fail)
  refine gen_world (fun W3 => Below w.heap.size w W3 ∧ Boxed W3 w.heap.size (mvRow mv0) 29) ⟨by first | exact (Below.refl _ _).alloc (Nat.le_refl _) _ | go_grown, by first | exact heap_alloc_new _ _ | skip⟩ ?_
  rintro w1 ⟨hb1, hx1⟩
  have HB1 := Lib.hid hb1
  have HX1 := Lib.hid hx1
  clear hb1 hx1
  by_cases h1 : i < 0
  · have d1 : decide (i < 0) = true := decide_eq_true h1
    have HP : Hid (takeOk n e f t i = false) := decide_eq_false fun q => by omega
    clear h1
    have HE : Hid (RB4.Free w1.heap.size (w1.alloc (.cells #[] 34)) (.slice (some ⟨w1.heap.size, 0, none⟩) 0 0) []) := .inr ⟨rfl, _, rfl⟩
    have HD : Hid (Below w1.heap.size w1 (w1.alloc (.cells #[] 34))) := (Below.refl _ _).alloc (Nat.le_refl _) _
    have HS : Hid (RB4.Is (w1.alloc (.cells #[] 34)) (.slice p xs0.length c) xs0) := (HIs0.out.below HB1.out).below HD.out
    have HDw : Hid (Below w.heap.size w (w1.alloc (.cells #[] 34))) := bcall HB1.out HD.out HB1.out.size
    have HLe : Hid (([] : List BW).length + xs0.length ≤ 900000) := by have := HXn.out; rw [Hid]; simp; omega
    have HXw : Hid (Boxed (w1.alloc (.cells #[] 34)) w.heap.size (mvRow mv0) 29) := HX1.out.alloc _
    have HZw : Hid (w.heap.size < w1.heap.size) := HX1.out.lt
    clear HIs0 HO HLen HIs HX1
    go_wp2_with (at_builtin; refine RowKind.Free.append (R := RB4) (ys := xs0) (by decide) rfl _ _ rfl HE.out rfl rfl HS.out HLe.out HD.out.size ?_; intro v6 w7 hO6 hG6 hS6 hL6; have HO6 := Lib.hid hO6; have HB6 := Lib.hid (hG6.below HDw.out HB1.out.size HDw.out.size); have N7 : rowOf w7 w.heap.size = some (mvRow mv0) := Boxed.row (hG6.boxed HXw.out (by decide)); clear hO6 hG6 hS6 hL6)
    refine gen_q (fun W' => rowOf W' w.heap.size = some (mvRow mv0) ∧ Below w.heap.size w W' ∧ RB4.Free w1.heap.size W' v6 xs0) ⟨row_set_same N7, below_setR HB6.out (Nat.le_refl _), free_keepT (by have q := HO6.out; rw [List.nil_append] at q; exact q) (fun k hk _ => heap_setRow _ _ _ k (by have := HZw.out; omega))⟩ ?_
    rintro w9 ⟨N9, hb9, hd9⟩
    have q0 : w9.cell? ⟨w.heap.size, 0, none⟩ = some (.int .i64 0) := rowOf_cell N9 0
    have q1 : w9.cell? ⟨w.heap.size, 1, none⟩ = some (.int .i64 0) := rowOf_cell N9 1
    have q2 : w9.cell? ⟨w.heap.size, 2, none⟩ = some (.int .i64 0) := rowOf_cell N9 2
    have q3 : w9.cell? ⟨w.heap.size, 3, none⟩ = some (.int .i64 0) := rowOf_cell N9 3
    have q4 : w9.cell? ⟨w.heap.size, 4, none⟩ = some (.int .i64 0) := rowOf_cell N9 4
    have q5 : w9.cell? ⟨w.heap.size, 5, none⟩ = some (.int .i64 0) := rowOf_cell N9 5
    have q6 : w9.cell? ⟨w.heap.size, 6, none⟩ = some (.int .i64 0) := rowOf_cell N9 6
    have q7 : w9.cell? ⟨w.heap.size, 7, none⟩ = some (.int .i64 0) := rowOf_cell N9 7
    have q8 : w9.cell? ⟨w.heap.size, 8, none⟩ = some (.int .i64 0) := rowOf_cell N9 8
    have q9 : w9.cell? ⟨w.heap.size, 9, none⟩ = some (.int .i64 0) := rowOf_cell N9 9
    clear N9
    exact bodyPost_ret (v := .tuple #[v6, .agg #[.int .i64 0, .int .i64 0, .int .i64 0, .int .i64 0, .int .i64 0, .int .i64 0, .int .i64 0, .int .i64 0, .int .i64 0, .int .i64 0], .bool false]) (by simp [results, Try.results14, go_sem, q0, q1, q2, q3, q4, q5, q6, q7, q8, q9]) rfl ⟨v6, by rw [HP.out, (takeN_no HP.out).2], by rw [(takeN_no HP.out).1]; exact ⟨xs0, hd9.is, HAr.out.below hb9⟩, capB_freeT hd9, hb9⟩
  · have d1 : decide (i < 0) = false := decide_eq_false h1
    go_wp2_with fail
    refine (HLen.out _ HB1.out).mono ?_
    rintro x w2 ⟨rfl, hb2⟩
    have HB2 := Lib.hid (bcall HB1.out hb2 HB1.out.size)
    have HX2 := Lib.hid (HX1.out.below hb2 HX1.out.lt)
    clear hb2 HB1 HX1
    by_cases h2 : (lenN n e f t : Int) ≤ i
    · have d2 : decide ((lenN n e f t : Int) ≤ i) = true := decide_eq_true h2
      have HP : Hid (takeOk n e f t i = false) := decide_eq_false fun q => by omega
      clear h1 h2
      have HE : Hid (RB4.Free w2.heap.size (w2.alloc (.cells #[] 34)) (.slice (some ⟨w2.heap.size, 0, none⟩) 0 0) []) := .inr ⟨rfl, _, rfl⟩
      have HD : Hid (Below w2.heap.size w2 (w2.alloc (.cells #[] 34))) := (Below.refl _ _).alloc (Nat.le_refl _) _
      have HS : Hid (RB4.Is (w2.alloc (.cells #[] 34)) (.slice p xs0.length c) xs0) := (HIs0.out.below HB2.out).below HD.out
      have HDw : Hid (Below w.heap.size w (w2.alloc (.cells #[] 34))) := bcall HB2.out HD.out HB2.out.size
      have HLe : Hid (([] : List BW).length + xs0.length ≤ 900000) := by have := HXn.out; rw [Hid]; simp; omega
      have HXw : Hid (Boxed (w2.alloc (.cells #[] 34)) w.heap.size (mvRow mv0) 29) := HX2.out.alloc _
      have HZw : Hid (w.heap.size < w2.heap.size) := HX2.out.lt
      clear HIs0 HO HLen HIs HX2
      go_wp2_with (at_builtin; refine RowKind.Free.append (R := RB4) (ys := xs0) (by decide) rfl _ _ rfl HE.out rfl rfl HS.out HLe.out HD.out.size ?_; intro v6 w7 hO6 hG6 hS6 hL6; have HO6 := Lib.hid hO6; have HB6 := Lib.hid (hG6.below HDw.out HB2.out.size HDw.out.size); have N7 : rowOf w7 w.heap.size = some (mvRow mv0) := Boxed.row (hG6.boxed HXw.out (by decide)); clear hO6 hG6 hS6 hL6)
      refine gen_q (fun W' => rowOf W' w.heap.size = some (mvRow mv0) ∧ Below w.heap.size w W' ∧ RB4.Free w2.heap.size W' v6 xs0) ⟨row_set_same N7, below_setR HB6.out (Nat.le_refl _), free_keepT (by have q := HO6.out; rw [List.nil_append] at q; exact q) (fun k hk _ => heap_setRow _ _ _ k (by have := HZw.out; omega))⟩ ?_
      rintro w9 ⟨N9, hb9, hd9⟩
      have q0 : w9.cell? ⟨w.heap.size, 0, none⟩ = some (.int .i64 0) := rowOf_cell N9 0
      have q1 : w9.cell? ⟨w.heap.size, 1, none⟩ = some (.int .i64 0) := rowOf_cell N9 1
      have q2 : w9.cell? ⟨w.heap.size, 2, none⟩ = some (.int .i64 0) := rowOf_cell N9 2
      have q3 : w9.cell? ⟨w.heap.size, 3, none⟩ = some (.int .i64 0) := rowOf_cell N9 3
      have q4 : w9.cell? ⟨w.heap.size, 4, none⟩ = some (.int .i64 0) := rowOf_cell N9 4
      have q5 : w9.cell? ⟨w.heap.size, 5, none⟩ = some (.int .i64 0) := rowOf_cell N9 5
      have q6 : w9.cell? ⟨w.heap.size, 6, none⟩ = some (.int .i64 0) := rowOf_cell N9 6
      have q7 : w9.cell? ⟨w.heap.size, 7, none⟩ = some (.int .i64 0) := rowOf_cell N9 7
      have q8 : w9.cell? ⟨w.heap.size, 8, none⟩ = some (.int .i64 0) := rowOf_cell N9 8
      have q9 : w9.cell? ⟨w.heap.size, 9, none⟩ = some (.int .i64 0) := rowOf_cell N9 9
      clear N9
      exact bodyPost_ret (v := .tuple #[v6, .agg #[.int .i64 0, .int .i64 0, .int .i64 0, .int .i64 0, .int .i64 0, .int .i64 0, .int .i64 0, .int .i64 0, .int .i64 0, .int .i64 0], .bool false]) (by simp [results, Try.results14, go_sem, q0, q1, q2, q3, q4, q5, q6, q7, q8, q9]) rfl ⟨v6, by rw [HP.out, (takeN_no HP.out).2], by rw [(takeN_no HP.out).1]; exact ⟨xs0, hd9.is, HAr.out.below hb9⟩, capB_freeT hd9, hb9⟩
    · have d2 : decide ((lenN n e f t : Int) ≤ i) = false := decide_eq_false h2
      have HP : Hid (takeOk n e f t i = true) := decide_eq_true (by omega)
      obtain ⟨j, rfl⟩ : ∃ j : Nat, i = (j : Int) := ⟨i.toNat, by omega⟩
      have hjl : j < lenN n e f t := by omega
      have hr : rightN n = true := by
        cases q : rightN n
        · unfold lenN at hjl; rw [if_neg (by rw [q]; decide)] at hjl; omega
        · rfl
      have HG : Hid (GoodN n) := (rightN_iff n).1 hr
      have HjL : Hid (j < (listL n e f t).length) := by rw [Hid]; unfold lenN at hjl; rw [if_pos hr, lenL_is] at hjl; exact hjl
      have d3 : decide (lenN n e f t ≤ j) = false := decide_eq_false (by omega)
      have d4 : ¬ lenN n e f t ≤ j := by omega
      clear h1 h2 hr HLen
      go_upto_region 5 with (fail)
      refine gen_world (fun W4 => Below w2.heap.size w2 W4 ∧ Boxed W4 w2.heap.size (mvRow mv0) 29) ⟨by first | exact (Below.refl _ _).alloc (Nat.le_refl _) _ | go_grown, by first | exact heap_alloc_new _ _ | skip⟩ ?_
      rintro w4 ⟨hb4, hx4⟩
      have HB4 := Lib.hid (bcall HB2.out hb4 HB2.out.size)
      have HX4 := Lib.hid (HX2.out.below hb4 HX2.out.lt)
      have HM4 := Lib.hid hx4
      have HZ2 : Hid (w.heap.size < w2.heap.size) := HX2.out.lt
      have HZ4 : Hid (w2.heap.size < w4.heap.size) := hx4.lt
      generalize w2.heap.size = bm at *
      clear hb4 hx4 HB2 HX2 d1 d2 d3 d4 hjl
      go_wp2_with fail
      go_loopg [13, 15] n.length (fun g2 v13 iv wr => ∃ (k : Nat) (hit : Bool), k ≤ n.length ∧ n.length - k ≤ g2 ∧ iv = .int .i64 (k : Int) ∧ Hid (TS w w4 bm xs0 n e f t j v13 hit k wr))
      case atStart => exact ⟨0, false, Nat.zero_le _, by omega, rfl, .inl ⟨rfl, RowKind.Own.nil RB4 _ _, HM4.out, fun i hi => absurd hi (Nat.not_lt_zero i)⟩, HB4.out, Nat.le_refl _, HX4.out⟩
      case round =>
        obtain ⟨k, hit, hk, hg2, rfl, HS⟩ := hrel
        rename World => wr
        by_cases hlt : k < n.length
        · have hkx : k < xs0.length := by have := HXn.out; omega
          have hkz : (k : Int) < (xs0.length : Int) := by omega
          obtain ⟨b, off, rfl, hb, hrow⟩ := HO.out k hkx
          have HRw := Lib.hid (fun (W : World) (hW : Below w.heap.size w W) => atB4 (w := W) (hrow.below hW hb) k hkx)
          have HBx := Lib.hid (HAr.out.2 k hlt)
          have HTk : Hid (xs0.take k ++ [xs0[k]!] = xs0.take (k + 1)) := by rw [Hid, List.take_succ_eq_append_getElem hkx, getElem!_pos xs0 k hkx]
          have hz : isZ (xs0[k]!).e (xs0[k]!).f (xs0[k]!).t e f t = isB n[k]! e f t := by rw [HBx.out.e, HBx.out.f, HBx.out.t]; rfl
          generalize xs0[k]! = r at *
          obtain ⟨re, rf, rt, rp, rn, rc⟩ := r
          simp only at hz
          clear hrow hkx
          obtain ⟨e0, e1, e2, e3⟩ := HRw.out wr HS.out.below
          try simp only at e0 e1 e2 e3
          go_upto_region 9 with (fail)
          refine gen_world (fun W3 => Below wr.heap.size wr W3 ∧ Boxed W3 wr.heap.size #[.int .i64 re, .int .i64 rf, .int .i64 rt, .slice rp rn rc] 34) ⟨by first | exact (Below.refl _ _).alloc (Nat.le_refl _) _ | go_grown, by first | exact heap_alloc_new _ _ | skip⟩ ?_
          rintro w5 ⟨hb5, hx5⟩
          have HB5 := Lib.hid hb5
          have HY5 := Lib.hid hx5
          have K1 : Hid (∀ W, Calls Try.prog 22 #[.agg #[.int .i64 re, .int .i64 rf, .int .i64 rt, .slice rp rn rc], .int .i64 e, .int .i64 f, .int .i64 t] W (Ret (.bool (isZ re rf rt e f t)) W)) := fun W => HIs.out re rf rt _ e f t W
          rw [hz] at K1
          have c0 : w5.cell? ⟨wr.heap.size, 0, none⟩ = some (.int .i64 re) := hx5.cell 0
          have c1 : w5.cell? ⟨wr.heap.size, 1, none⟩ = some (.int .i64 rf) := hx5.cell 1
          have c2 : w5.cell? ⟨wr.heap.size, 2, none⟩ = some (.int .i64 rt) := hx5.cell 2
          have c3 : w5.cell? ⟨wr.heap.size, 3, none⟩ = some (.slice rp rn rc) := hx5.cell 3
          clear e0 e1 e2 e3 hb5 hx5 hz
          go_wp2_with fail
          refine (K1.out _).mono ?_
          rintro x w6 ⟨rfl, hb6⟩
          have HB6 := Lib.hid (bcall HB5.out hb6 HB5.out.size)
          have HY6 := Lib.hid (HY5.out.below hb6 HY5.out.lt)
          clear c0 c1 c2 c3 hb6 HB5 HY5 K1
          have HW6 : Hid (Below w.heap.size w w6) := bcall HS.out.below HB6.out HS.out.below.size
          have HX6 := Lib.hid (HS.out.res.below HB6.out HS.out.res.lt)
          have HZ6 : Hid (w4.heap.size ≤ w6.heap.size) := Nat.le_trans HS.out.big HB6.out.size
          have HBg : Hid (w4.heap.size ≤ wr.heap.size) := HS.out.big
          have HLe2 : Hid ((n.take k).length + 1 ≤ 900000) := by rw [Hid, List.length_take]; omega
          cases hit
          · rcases HS.out.ex with ⟨_, hOw, hMb, hNo⟩ | ⟨q, _⟩
            · have HOw6 := Lib.hid (hOw.below HB6.out)
              have HOl : Hid (∀ x, u13.ownBlock = some x → w4.heap.size ≤ x ∧ x < wr.heap.size) := fun x hx => hOw.lt x hx
              have HM6 := Lib.hid (hMb.below HB6.out hMb.lt)
              have HNo := Lib.hid hNo
              clear hOw hMb hNo HS
              cases hq : isB n[k]! e f t
              · have HNo2 : Hid (∀ i, i < k + 1 → isB n[i]! e f t = false) := fun i hi => by
                  by_cases q : i = k
                  · subst q; exact hq
                  · exact HNo.out i (by omega)
                have HLe : Hid (((xs0.take k).length + 1) * RB4.bytes ≤ 140737488355328) := by
                  have h48 : RB4.bytes = 48 := rfl
                  rw [Hid, List.length_take, h48]; omega
                have HBr : Hid (Below w4.heap.size w6 w6) := Below.refl _ _
                have c0 : w6.cell? ⟨wr.heap.size, 0, none⟩ = some (.int .i64 re) := HY6.out.cell 0
                have c1 : w6.cell? ⟨wr.heap.size, 1, none⟩ = some (.int .i64 rf) := HY6.out.cell 1
                have c2 : w6.cell? ⟨wr.heap.size, 2, none⟩ = some (.int .i64 rt) := HY6.out.cell 2
                have c3 : w6.cell? ⟨wr.heap.size, 3, none⟩ = some (.slice rp rn rc) := HY6.out.cell 3
                clear HNo hq
                go_wp2_with (at_builtin; refine RowKind.Own.pushL (R := RB4) (y := ⟨re, rf, rt, rp, rn, rc⟩) HOw6.out HBr.out HZ6.out (by decide) rfl _ _ rfl rfl 34 rfl HLe.out HZ6.out ?_; intro v9 w9 hO9 hB9 hz9; have HB9 := Lib.hid hB9; have HO9 := Lib.hid hO9; clear hO9 hB9 hz9 c0 c1 c2 c3)
                go_roundg (n.length - (k + 1))
                case measure => omega
                case rel => exact ⟨k + 1, false, by omega, by omega, by go_num, .inl ⟨rfl, by rw [← HTk.out]; exact HO9.out, HM6.out.below HB9.out HZ4.out, HNo2.out⟩, HW6.out.trans (HB9.out.mono HB4.out.size), Nat.le_trans HZ6.out HB9.out.size, HX6.out.below HB9.out (Nat.lt_trans HZ2.out HZ4.out)⟩
              · have hLst := list_hit hlt HNo.out hq
                have hTl := take_at (i := j) hlt HNo.out hq
                have HNb : Hid (∀ i, k + 1 ≤ i → i < n.length → isB n[i]! e f t = false) := fun i hi hin => none_behind (l := []) HG.out hlt (.inl hq) i (by omega) hin
                have hrn : rn = (n[k]!).l.length := HBx.out.n
                have hrc : rn ≤ rc := HBx.out.k
                have hIl : RM.Is w (.slice rp rn rc) (n[k]!).l := HBx.out.l
                have hL5 : (n[k]!).l.length ≤ 5000 := HL5n.out _ (by rw [getElem!_pos n k hlt]; exact List.getElem_mem hlt)
                have hj := HjL.out
                have hMM : (listL n e f t)[j]! = (n[k]!).l[j]! := by rw [hLst]
                have hbe : re = (n[k]!).e := HBx.out.e
                have hbf : rf = (n[k]!).f := HBx.out.f
                have hbt : rt = (n[k]!).t := HBx.out.t
                rw [← hbe, ← hbf, ← hbt] at hTl
                rw [hLst] at hj
                generalize (n[k]!).l = li at hTl hrn hIl hL5 hj hMM
                have HTl := Lib.hid hTl
                obtain ⟨pq, cq, eq1, hop⟩ := isOpenedU hIl
                have e3 : rp = pq := by simp only [Value.slice.injEq] at eq1; exact eq1.1
                obtain ⟨bl, ol, e2, hbl, hrl⟩ := hop j hj
                rw [e2] at e3
                subst e3
                have HRl : Hid (∀ W, Below w.heap.size w W → RM.Row W bl ol li) := fun W hW => hrl.below hW hbl
                obtain ⟨m0, m1, m2, m3, m4, m5, m6, m7, m8, m9⟩ := atM (HRl.out w6 HW6.out) j hj
                generalize hmm : li[j]! = mm at *
                have HMm : Hid ((listL n e f t)[j]! = mm) := hMM
                have hjz : (j : Int) < (rn : Int) := by omega
                have hbxr : wr.heap.size < w6.heap.size := HY6.out.lt
                have c3 : w6.cell? ⟨wr.heap.size, 3, none⟩ = some (.slice (some ⟨bl, ol, none⟩) rn rc) := HY6.out.cell 3
                have N6 : rowOf w6 bm = some (mvRow mv0) := Boxed.row HM6.out
                have hbmr : bm ≠ wr.heap.size := by have := HZ4.out; have := HBg.out; omega
                have hbmw : bm ≠ w.heap.size := by have := HZ2.out; omega
                have hwbx : w.heap.size < wr.heap.size := by have := HZ2.out; have := HZ4.out; have := HBg.out; omega
                have HPx : Hid (Below w.heap.size w (setRow w6 bm (mvRow mm)) ∧ Boxed (setRow w6 bm (mvRow mm)) bm (mvRow mm) 29 ∧ Boxed (setRow w6 bm (mvRow mm)) wr.heap.size #[.int .i64 re, .int .i64 rf, .int .i64 rt, .slice (some ⟨bl, ol, none⟩) rn rc] 34 ∧ Boxed (setRow w6 bm (mvRow mm)) w.heap.size (mvRow mv0) 29 ∧ RB4.Own w4.heap.size (setRow w6 bm (mvRow mm)) u13 (xs0.take k) ∧ w4.heap.size ≤ (setRow w6 bm (mvRow mm)).heap.size ∧ wr.heap.size < (setRow w6 bm (mvRow mm)).heap.size) :=
                  ⟨below_setR HW6.out (Nat.le_of_lt HZ2.out), HM6.out.setR, (heap_setRow _ _ _ _ (Ne.symm hbmr)).trans HY6.out, (heap_setRow _ _ _ _ (Ne.symm hbmw)).trans HX6.out, HOw6.out.keepK fun x hx => heap_setRow _ _ _ x (by have := (HOl.out x hx).1; have := HZ4.out; omega), by rw [size_setRow]; exact HZ6.out, by rw [size_setRow]; exact hbxr⟩
                clear hLst hTl hIl hop eq1 e2 hrl hMM hq hmm HNo HBx HLe2 HM6 HY6 HX6 HW6 HOw6 HZ6 hbe hbf hbt cq hbxr
                go_upto_region 11 with (fail)
                refine gen_world (fun W => Below w.heap.size w W ∧ Boxed W bm (mvRow mm) 29 ∧ Boxed W wr.heap.size #[.int .i64 re, .int .i64 rf, .int .i64 rt, .slice (some ⟨bl, ol, none⟩) rn rc] 34 ∧ Boxed W w.heap.size (mvRow mv0) 29 ∧ RB4.Own w4.heap.size W u13 (xs0.take k) ∧ w4.heap.size ≤ W.heap.size ∧ wr.heap.size < W.heap.size) HPx.out ?_
                rintro wq ⟨hbq, hmq, hyq, hxq, hoq, hzq, hbxq⟩
                have HBq := Lib.hid hbq
                have HMq := Lib.hid hmq
                have HYq := Lib.hid hyq
                have HXq := Lib.hid hxq
                have HOq := Lib.hid hoq
                have HZq := Lib.hid hzq
                clear m0 m1 m2 m3 m4 m5 m6 m7 m8 m9 c3 N6 HPx hbq hmq hyq hxq hoq hzq hjz HB6
                have HFin : Hid (∀ (W : World) (v : Value), Below wq.heap.size wq W → RM.Free wq.heap.size W v (li.take j ++ li.drop (j + 1)) → ∃ p c, v = .slice p (li.length - 1) c ∧ W.cell? ⟨wr.heap.size, 3, none⟩ = some (.slice (some ⟨bl, ol, none⟩) rn rc) ∧ W.frozen? ⟨wr.heap.size, 3, none⟩ = false ∧ OutG (fun x => x = w.heap.size) w4.heap.size (W.setCell ⟨wr.heap.size, 3, none⟩ (.slice p (li.length - 1) c)) u13 (n.take k) ∧ Below w.heap.size w (W.setCell ⟨wr.heap.size, 3, none⟩ (.slice p (li.length - 1) c)) ∧ w4.heap.size ≤ (W.setCell ⟨wr.heap.size, 3, none⟩ (.slice p (li.length - 1) c)).heap.size ∧ Boxed (W.setCell ⟨wr.heap.size, 3, none⟩ (.slice p (li.length - 1) c)) w.heap.size (mvRow mv0) 29 ∧ Boxed (W.setCell ⟨wr.heap.size, 3, none⟩ (.slice p (li.length - 1) c)) bm (mvRow mm) 29 ∧ rowOf (W.setCell ⟨wr.heap.size, 3, none⟩ (.slice p (li.length - 1) c)) wr.heap.size = some #[.int .i64 re, .int .i64 rf, .int .i64 rt, .slice p (li.length - 1) c] ∧ (li.length - 1 ≠ 0 → isBx (W.setCell ⟨wr.heap.size, 3, none⟩ (.slice p (li.length - 1) c)) ⟨re, rf, rt, p, li.length - 1, c⟩ ⟨re, rf, rt, li.eraseIdx j⟩ ∧ OffG (fun x => u13.ownBlock = some x ∨ x = w.heap.size) (.slice p (li.length - 1) c))) := fun W v hW hF => by
                  rw [← List.eraseIdx_eq_take_drop_succ] at hF
                  have hl1 : (li.eraseIdx j).length = li.length - 1 := by rw [List.length_eraseIdx, if_pos hj]
                  obtain ⟨p, c, rfl⟩ := hF.is.slice
                  rw [hl1] at hF ⊢
                  have HB := HYq.out.below hW HYq.out.lt
                  have hR := Boxed.row HB
                  have hset := setCell_row hR 3 (.slice p (li.length - 1) c)
                  have hoth : ∀ x, x ≠ wr.heap.size → (W.setCell ⟨wr.heap.size, 3, none⟩ (.slice p (li.length - 1) c)).heap[x]? = W.heap[x]? := fun x hx => by rw [hset]; exact heap_setRow _ _ _ x hx
                  have hsz : (W.setCell ⟨wr.heap.size, 3, none⟩ (.slice p (li.length - 1) c)).heap.size = W.heap.size := by rw [hset, size_setRow]
                  have hrow : rowOf (W.setCell ⟨wr.heap.size, 3, none⟩ (.slice p (li.length - 1) c)) wr.heap.size = some #[.int .i64 re, .int .i64 rf, .int .i64 rt, .slice p (li.length - 1) c] := by
                    rw [hset]; exact rowOf_setRow_same _ _ (by rw [hR]; rfl)
                  have hos : (W.setCell ⟨wr.heap.size, 3, none⟩ (.slice p (li.length - 1) c)).os = W.os ∧ (W.setCell ⟨wr.heap.size, 3, none⟩ (.slice p (li.length - 1) c)).tape = W.tape ∧ (W.setCell ⟨wr.heap.size, 3, none⟩ (.slice p (li.length - 1) c)).output = W.output := by rw [hset]; exact ⟨rfl, rfl, rfl⟩
                  refine ⟨p, c, rfl, HB.cell 3, HB.frozen 3, ?_⟩
                  generalize W.setCell ⟨wr.heap.size, 3, none⟩ (.slice p (li.length - 1) c) = W2 at *
                  have hSW := bcall HBq.out hW HBq.out.size
                  have hB2 : Below w.heap.size w W2 := ⟨hos.1.trans hSW.os, hos.2.1.trans hSW.tape, hos.2.2.trans hSW.output, by rw [hsz]; exact hSW.size, fun x hx => (hoth x (by omega)).trans (hSW.block x hx)⟩
                  have hOw : RB4.Own w4.heap.size W2 u13 (xs0.take k) := (HOq.out.below hW).keepK fun x hx => hoth x (by have := (HOl.out x hx).2; omega)
                  refine ⟨OutG.copy (A := 0) hOw (HAr.out.takeT k) hB2 HB4.out.size (fun x hx => by omega), hB2, by rw [hsz]; exact Nat.le_trans HZq.out hW.size, (hoth _ (by omega)).trans (HXq.out.below hW HXq.out.lt), (hoth _ hbmr).trans (HMq.out.below hW HMq.out.lt), hrow, fun hne => ?_⟩
                  have hO : RM.Own wq.heap.size W (.slice p (li.length - 1) c) (li.eraseIdx j) := by
                    rcases hF with hF | ⟨hF, _⟩
                    · exact hF
                    · rw [hF] at hl1; exact absurd hl1.symm hne
                  have hoff : ∀ x o n' c', (Value.slice p (li.length - 1) c) = .slice (some ⟨x, o, none⟩) n' c' → wq.heap.size ≤ x := fun x o n' c' e => (hO.lt x (by rw [e]; rfl)).1
                  refine ⟨⟨rfl, rfl, rfl, hl1.symm, capM_own hO _ _ _ rfl, ?_⟩, fun x o n' c' e hx => ?_⟩
                  · exact is_keepG (G := fun x => x = wr.heap.size) hO.is (fun _ x o n' c' e hx => by have := hoff x o n' c' e; omega) (by rw [hsz]; exact Nat.le_refl _) fun x _ hx => hoth x hx
                  · have h1 := hoff x o n' c' e
                    rcases hx with hx | hx
                    · have h2 := (HOl.out x hx).2
                      omega
                    · omega
                have haz : ¬ (j : Int) < 0 := by omega
                have hj1 : j + 1 ≤ rn := by omega
                have ha1 : (j : Int) ≤ (rc : Int) := by omega
                have ha2 : (j : Int) + 1 ≤ (rn : Int) := by omega
                have ha3 : j ≤ rc := by omega
                have hwr : IntKind.i64.wrap ((j : Int) + 1) = (j : Int) + 1 := by rw [IntKind.wrap_i64]; omega
                have htn : ((j : Int) + 1).toNat = j + 1 := by omega
                have hge : 0 ≤ (j : Int) + 1 := by omega
                have HE : Hid (RM.Free wq.heap.size ((wq.alloc (.cells #[] 29)).drew) (.slice (some ⟨wq.heap.size, 0, none⟩) 0 0) []) := .inr ⟨rfl, _, rfl⟩
                have HWE : Hid (Below wq.heap.size wq ((wq.alloc (.cells #[] 29)).drew)) := ((Below.refl _ _).alloc (Nat.le_refl _) _).drew
                have HS1 : Hid (RM.Is ((wq.alloc (.cells #[] 29)).drew) (.slice (some ⟨bl, ol, none⟩) j rc) (li.take j)) := is_takeM (Nat.lt_of_lt_of_le hbl (Nat.le_trans HBq.out.size HWE.out.size)) (HRl.out _ (bcall HBq.out HWE.out HBq.out.size)) (by omega)
                obtain ⟨pv, hpv⟩ : ∃ pv : Option Addr, (if rc = j + 1 then some (⟨bl, ol, none⟩ : Addr) else some ⟨bl, ol + (j + 1) * 10, none⟩) = pv := ⟨_, rfl⟩
                have HS2 : Hid (∀ W, Below wq.heap.size wq W → RM.Is W (.slice pv (rn - (j + 1)) (rc - (j + 1))) (li.drop (j + 1))) := fun W hW => by
                  rw [← hpv]
                  by_cases hcc : rc = j + 1
                  · have hle : li.length = j + 1 := by omega
                    refine .inl ⟨by rw [← hle]; simp, ⟨_, rc - (j + 1), by rw [hrn, hle, Nat.sub_self], fun q => ?_⟩⟩
                    rw [if_pos hcc] at q
                    cases q
                  · rw [if_neg hcc, hrn]
                    exact is_dropM (Nat.lt_of_lt_of_le hbl (Nat.le_trans HBq.out.size hW.size)) (HRl.out W (bcall HBq.out hW HBq.out.size)) (by omega)
                have HL3 : Hid (∀ W, Below wq.heap.size wq W → W.cell? ⟨wr.heap.size, 3, none⟩ = some (.slice (some ⟨bl, ol, none⟩) rn rc)) := fun W hW => (HYq.out.below hW HYq.out.lt).cell 3
                have l0 := HL3.out wq (Below.refl _ _)
                have l1 := HL3.out (wq.alloc (.cells #[] 29)) ((Below.refl _ _).alloc (Nat.le_refl _) _)
                have HLe : Hid (([] : List MV).length + (li.take j).length ≤ 900000) := by rw [Hid, List.length_take]; simp; omega
                have HLf : Hid ((([] : List MV) ++ li.take j).length + (li.drop (j + 1)).length ≤ 900000) := by rw [Hid, List.nil_append, List.length_take, List.length_drop]; omega
                have HJ := Lib.hid hj
                generalize hll : li.length - 1 = L1 at *
                have HLL := Lib.hid hll
                clear hj hL5 hrn hrc hll HYq HOq HXq HMq HBq HZq hwbx hbl HRl hbmr hbmw HOl
                go_region_law (first
                  | (refine RowKind.Free.appendR (R := RM) (ys := li.take j) (by decide) rfl _ _ rfl HE.out rfl rfl HS1.out HLe.out HWE.out.size ?_; intro v9 w9 hO9 hG9 hS9 hL9; have HD9 := hG9.below HWE.out (Nat.le_refl _) HWE.out.size; have HS9 := HS2.out w9 HD9; have l9 := HL3.out w9 HD9)
                  | (refine RowKind.Free.appendR (R := RM) (ys := li.drop (j + 1)) (by decide) rfl _ _ rfl hO9 rfl rfl HS9 HLf.out HD9.size ?_; intro v10 w10 hO10 hG10 hS10 hL10; have HD10 := hG10.below HD9 (Nat.le_refl _) HD9.size; rw [List.nil_append] at hO10; obtain ⟨p10, c10, rfl, t1, t2, t4, t5, t6, t7, t8, t9, t10⟩ := HFin.out w10 v10 HD10 hO10; have T4 := Lib.hid t4; have T5 := Lib.hid t5; have T6 := Lib.hid t6; have T7 := Lib.hid t7; have T8 := Lib.hid t8; have T9 := Lib.hid t9; have T10 := Lib.hid t10; clear hO9 hG9 hS9 hL9 HD9 HS9 hO10 hG10 hS10 hL10 HD10 t4 t5 t6 t7 t8 t9 t10))
                all_goals
                  try simp only [List.getElem_toArray, List.getElem_cons_succ, List.getElem_cons_zero, Act.put, List.setIfInBounds_toArray, List.set_cons_zero, List.set_cons_succ]
                  clear t1 t2 l0 l1 l9 HE HWE HS1 HS2 HL3 HLe HLf HFin
                  generalize w10.setCell ⟨wr.heap.size, 3, none⟩ (.slice p10 L1 c10) = wv at *
                  have f0 : wv.cell? ⟨wr.heap.size, 0, none⟩ = some (.int .i64 re) := rowOf_cell T9.out 0
                  have f1 : wv.cell? ⟨wr.heap.size, 1, none⟩ = some (.int .i64 rf) := rowOf_cell T9.out 1
                  have f2 : wv.cell? ⟨wr.heap.size, 2, none⟩ = some (.int .i64 rt) := rowOf_cell T9.out 2
                  have f3 : wv.cell? ⟨wr.heap.size, 3, none⟩ = some (.slice p10 L1 c10) := rowOf_cell T9.out 3
                  clear T9
                  by_cases hone : L1 = 0
                  · have d1 : ((L1 : Int) == 0) = true := by simp; omega
                    have HTk2 : Hid (n.take k ++ n.drop (k + 1) = takeL n e f t j) := by
                      rw [Hid, HTl.out, if_pos (by have := HLL.out; have := HJ.out; omega), List.eraseIdx_eq_take_drop_succ]
                    go_wp2
                    go_roundg (n.length - (k + 1))
                    case measure => omega
                    case rel => exact ⟨k + 1, true, by omega, by omega, by go_num, .inr ⟨rfl, by rw [HMm.out]; exact T8.out, _, T4.out, by rw [List.length_take]; omega, HTk2.out, HNb.out⟩, T5.out, T6.out, T7.out⟩
                  · have d1 : ((L1 : Int) == 0) = false := by simp; omega
                    have HTk2 : Hid ((n.take k ++ [(⟨re, rf, rt, li.eraseIdx j⟩ : BV)]) ++ n.drop (k + 1) = takeL n e f t j) := by
                      rw [Hid, HTl.out, if_neg (by have := HLL.out; have := HJ.out; omega), List.set_eq_take_append_cons_drop, if_pos hlt, List.append_assoc]
                      rfl
                    have HLe3 : Hid ((n.take k).length + 1 ≤ 900000) := by rw [Hid, List.length_take]; omega
                    have T10b := Lib.hid (T10.out hone)
                    have HAq : Hid (Below wv.heap.size wv (wv.alloc (.cells (RB4.enc ⟨re, rf, rt, p10, L1, c10⟩).toArray 34))) := (Below.refl _ _).alloc (Nat.le_refl _) _
                    have HAw : Hid (Below w.heap.size w (wv.alloc (.cells (RB4.enc ⟨re, rf, rt, p10, L1, c10⟩).toArray 34))) := T5.out.alloc T5.out.size _
                    have HA4 : Hid (w4.heap.size ≤ (wv.alloc (.cells (RB4.enc ⟨re, rf, rt, p10, L1, c10⟩).toArray 34)).heap.size) := Nat.le_trans T6.out HAq.out.size
                    clear T10
                    go_wp2_with (at_builtin; refine OutG.append (b := ⟨re, rf, rt, li.eraseIdx j⟩) rfl _ _ rfl ⟨re, rf, rt, p10, L1, c10⟩ (T4.out.below HAq.out) rfl rfl (.inr ⟨by simp, wv.heap.size, 0, 1, rfl, by simp, RowKind.Row.new (R := RB4) wv _ 34⟩) (T10b.out.1.below HAq.out) (fun _ => T10b.out.2) HLe3.out HA4.out ?_; intro v11 w11 hO11 hG11 hS11; have HO11 := Lib.hid hO11; have HB11 := Lib.hid (hG11.below HAw.out HB4.out.size HAw.out.size); have HM11 := Lib.hid (hG11.boxed (T8.out.alloc _) (by decide)); have HX11 := Lib.hid (hG11.boxed (T7.out.alloc _) (by decide)); have HZ11 := Lib.hid (Nat.le_trans HA4.out hG11.size); clear hO11 hG11 hS11 f0 f1 f2 f3)
                    go_roundg (n.length - (k + 1))
                    case measure => omega
                    case rel => exact ⟨k + 1, true, by omega, by omega, by go_num, .inr ⟨rfl, by rw [HMm.out]; exact HM11.out, _, HO11.out, by simp; omega, HTk2.out, HNb.out⟩, HB11.out, HZ11.out, HX11.out⟩
            · cases q
          · rcases HS.out.ex with ⟨q, _⟩ | ⟨_, hMb, outN, hO, hle, hPl, hNb⟩
            · cases q
            · have hq := hNb k (Nat.le_refl _) hlt
              have HO6 := Lib.hid (hO.below HB6.out)
              have HM6 := Lib.hid (hMb.below HB6.out hMb.lt)
              have HPl : Hid ((outN ++ [n[k]!]) ++ n.drop (k + 1) = takeL n e f t j) := by rw [Hid, List.append_assoc, ← hPl, List.drop_eq_getElem_cons hlt, getElem!_pos n k hlt]; rfl
              have HNb2 : Hid (∀ i, k + 1 ≤ i → i < n.length → isB n[i]! e f t = false) := fun i hi hin => hNb i (by omega) hin
              have HLe3 : Hid (outN.length + 1 ≤ 900000) := by rw [Hid]; omega
              have c0 : w6.cell? ⟨wr.heap.size, 0, none⟩ = some (.int .i64 re) := HY6.out.cell 0
              have c1 : w6.cell? ⟨wr.heap.size, 1, none⟩ = some (.int .i64 rf) := HY6.out.cell 1
              have c2 : w6.cell? ⟨wr.heap.size, 2, none⟩ = some (.int .i64 rt) := HY6.out.cell 2
              have c3 : w6.cell? ⟨wr.heap.size, 3, none⟩ = some (.slice rp rn rc) := HY6.out.cell 3
              have HAq : Hid (Below w6.heap.size w6 (w6.alloc (.cells (RB4.enc ⟨re, rf, rt, rp, rn, rc⟩).toArray 34))) := (Below.refl _ _).alloc (Nat.le_refl _) _
              have HAw : Hid (Below w.heap.size w (w6.alloc (.cells (RB4.enc ⟨re, rf, rt, rp, rn, rc⟩).toArray 34))) := bcall HW6.out HAq.out HW6.out.size
              have HA4 : Hid (w4.heap.size ≤ (w6.alloc (.cells (RB4.enc ⟨re, rf, rt, rp, rn, rc⟩).toArray 34)).heap.size) := Nat.le_trans HZ6.out HAq.out.size
              clear hO hPl hNb HS hMb
              rw [hq]
              go_wp2_with (at_builtin; refine OutG.append (b := n[k]!) rfl _ _ rfl ⟨re, rf, rt, rp, rn, rc⟩ (HO6.out.below HAq.out) rfl rfl (.inr ⟨by simp, w6.heap.size, 0, 1, rfl, by simp, RowKind.Row.new (R := RB4) w6 _ 34⟩) (HBx.out.below HAw.out) (fun hne b o c d e q => by have h2 := is_blockG HBx.out.l hne e; have h3 := HB4.out.size; rcases q with q | q; have h1 := (HO6.out.lt b q).1; omega; omega) HLe3.out HA4.out ?_; intro v10 w10 hO10 hG10 hS10; have HO10 := Lib.hid hO10; have HB10 := Lib.hid (hG10.below HAw.out HB4.out.size HAw.out.size); have HX10 := Lib.hid (hG10.boxed (HX6.out.alloc _) (by decide)); have HM10 := Lib.hid (hG10.boxed (HM6.out.alloc _) (by decide)); have HZ10 := Lib.hid (Nat.le_trans HA4.out hG10.size); clear hO10 hG10 hS10 c0 c1 c2 c3)
              go_roundg (n.length - (k + 1))
              case measure => omega
              case rel => exact ⟨k + 1, true, by omega, by omega, by go_num, .inr ⟨rfl, HM10.out, _, HO10.out, by simp; omega, HPl.out, HNb2.out⟩, HB10.out, HZ10.out, HX10.out⟩
        · obtain rfl : k = n.length := by omega
          have hkz : ¬ ((n.length : Nat) : Int) < (xs0.length : Int) := by have := HXn.out; omega
          cases hit
          · rcases HS.out.ex with ⟨_, _, _, hNo⟩ | ⟨q, _⟩
            · exfalso
              have : listL n e f t = [] := lenL_zero fun b hb => by
                obtain ⟨i, hi, rfl⟩ := List.mem_iff_getElem.1 hb
                rw [← getElem!_pos n i hi]
                exact hNo i hi
              have h2 := HjL.out
              rw [this] at h2
              exact absurd h2 (Nat.not_lt_zero j)
            · cases q
          · rcases HS.out.ex with ⟨q, _⟩ | ⟨_, hMb, outN, hO, hle, hPl, hNb⟩
            · cases q
            · rw [List.drop_length, List.append_nil] at hPl
              have HPl := Lib.hid hPl
              have HO9 := Lib.hid hO
              have HBw := Lib.hid HS.out.below
              have HXr := Lib.hid HS.out.res
              have HBg := Lib.hid HS.out.big
              have HMm : Hid (takeM n e f t (j : Int) = (listL n e f t)[j]!) := by rw [Hid, (takeN_yes HP.out).2]; rfl
              have HTn : Hid (takeN n e f t (j : Int) = takeL n e f t j) := by rw [Hid, (takeN_yes HP.out).1]; rfl
              generalize (listL n e f t)[j]! = mm at *
              have r0 : wr.cell? ⟨bm, 0, none⟩ = some (.int .i64 mm.e) := hMb.cell 0
              have r1 : wr.cell? ⟨bm, 1, none⟩ = some (.int .i64 mm.d) := hMb.cell 1
              have r2 : wr.cell? ⟨bm, 2, none⟩ = some (.int .i64 mm.c0) := hMb.cell 2
              have r3 : wr.cell? ⟨bm, 3, none⟩ = some (.int .i64 mm.c1) := hMb.cell 3
              have r4 : wr.cell? ⟨bm, 4, none⟩ = some (.int .i64 mm.c2) := hMb.cell 4
              have r5 : wr.cell? ⟨bm, 5, none⟩ = some (.int .i64 mm.c3) := hMb.cell 5
              have r6 : wr.cell? ⟨bm, 6, none⟩ = some (.int .i64 mm.k) := hMb.cell 6
              have r7 : wr.cell? ⟨bm, 7, none⟩ = some (.int .i64 mm.v) := hMb.cell 7
              have r8 : wr.cell? ⟨bm, 8, none⟩ = some (.int .i64 mm.n) := hMb.cell 8
              have r9 : wr.cell? ⟨bm, 9, none⟩ = some (.int .i64 mm.c) := hMb.cell 9
              have R0 := fun p => beh_cell r0 p
              have R1 := fun p => beh_cell r1 p
              have R2 := fun p => beh_cell r2 p
              have R3 := fun p => beh_cell r3 p
              have R4 := fun p => beh_cell r4 p
              have R5 := fun p => beh_cell r5 p
              have R6 := fun p => beh_cell r6 p
              have R7 := fun p => beh_cell r7 p
              have R8 := fun p => beh_cell r8 p
              have R9 := fun p => beh_cell r9 p
              clear r0 r1 r2 r3 r4 r5 r6 r7 r8 r9 hMb hO hPl hNb hle HS
              go_upto_region 14 with (fail)
              refine wp_region_last (pre := ?pre) (tl := ?tl) 3 ?hp ?ht (by kernel_rfl) ?hB ?hT ?htl ?h
              case hp => simp only [List.take_succ_cons, List.take_zero] <;> exact rfl
              case ht => simp only [List.drop_succ_cons, List.drop_zero] <;> exact rfl
              case hB => kernel_rfl
              case hT => kernel_rfl
              case htl => exact List.cons_ne_nil _ _
              case h =>
                repeat (first | go_big_quiet_step (fail) | quiet_step (fail))
                refine wpQuiet_nil ?_
                intro _ hw'
                obtain ⟨q, hw''⟩ := hw'
                subst hw''
                have HBz := Lib.hid (bcall HBw.out q.h HBw.out.size)
                have HOz := Lib.hid (HO9.out.below q.h)
                have N0 : rowOf q.w w.heap.size = some (mvRow mv0) := Boxed.row (HXr.out.below q.h HXr.out.lt)
                have HZz : Hid (w4.heap.size ≤ q.w.heap.size) := Nat.le_trans HBg.out q.h.size
                clear R0 R1 R2 R3 R4 R5 R6 R7 R8 R9 HBw HO9 HXr HBg
                generalize q.w = wz at *
                clear q
                go_wp2_with fail
                refine gen_q (fun W' => rowOf W' w.heap.size = some (mvRow mm) ∧ Below w.heap.size w W' ∧ IsBs W' u13 outN ∧ capOk u13) ⟨row_set_same N0, below_setR HBz.out (Nat.le_refl _), (HOz.out.set (by rw [size_setRow]; exact Nat.le_refl _) (fun k hk hG => heap_setRow _ _ _ k hG) (fun k hk => by have := HZ2.out; have := HZ4.out; omega)).is, HOz.out.cap⟩ ?_
                rintro w9 ⟨N9, hb9, hi9, hc9⟩
                have q0 : w9.cell? ⟨w.heap.size, 0, none⟩ = some (.int .i64 (mm).e) := rowOf_cell N9 0
                have q1 : w9.cell? ⟨w.heap.size, 1, none⟩ = some (.int .i64 (mm).d) := rowOf_cell N9 1
                have q2 : w9.cell? ⟨w.heap.size, 2, none⟩ = some (.int .i64 (mm).c0) := rowOf_cell N9 2
                have q3 : w9.cell? ⟨w.heap.size, 3, none⟩ = some (.int .i64 (mm).c1) := rowOf_cell N9 3
                have q4 : w9.cell? ⟨w.heap.size, 4, none⟩ = some (.int .i64 (mm).c2) := rowOf_cell N9 4
                have q5 : w9.cell? ⟨w.heap.size, 5, none⟩ = some (.int .i64 (mm).c3) := rowOf_cell N9 5
                have q6 : w9.cell? ⟨w.heap.size, 6, none⟩ = some (.int .i64 (mm).k) := rowOf_cell N9 6
                have q7 : w9.cell? ⟨w.heap.size, 7, none⟩ = some (.int .i64 (mm).v) := rowOf_cell N9 7
                have q8 : w9.cell? ⟨w.heap.size, 8, none⟩ = some (.int .i64 (mm).n) := rowOf_cell N9 8
                have q9 : w9.cell? ⟨w.heap.size, 9, none⟩ = some (.int .i64 (mm).c) := rowOf_cell N9 9
                clear N9
                exact bodyPost_ret (v := .tuple #[u13, .agg #[.int .i64 (mm).e, .int .i64 (mm).d, .int .i64 (mm).c0, .int .i64 (mm).c1, .int .i64 (mm).c2, .int .i64 (mm).c3, .int .i64 (mm).k, .int .i64 (mm).v, .int .i64 (mm).n, .int .i64 (mm).c], .bool true]) (by simp [results, Try.results14, go_sem, q0, q1, q2, q3, q4, q5, q6, q7, q8, q9]) rfl ⟨u13, by rw [HP.out, HMm.out], by rw [HTn.out, ← HPl.out]; exact hi9, hc9, hb9⟩

end Go.Proofs.Ytdgnblkoohakeaa
