/- the program's At, the document's At -/
import Derived.Test.YthhceggcdaljdaaGreatG23
namespace Go.Proofs.YthhceggcdaljdaaGreat
open Go.RowKit
set_option linter.unusedVariables false
set_option linter.unusedSimpArgs false

def zSl : SV := freshS TV.zero
def isAt (c : List SV) (t : TV) : Bool := rightSl c && (lookS c t).isSome
def atV (c : List SV) (t : TV) : SV := if rightSl c = true then (lookS c t).getD zSl else zSl
def AtR (c : List SV) (t : TV) (w : World) (e : Ending) (w' : World) : Prop := ∃ x : SW, e = .returned (.tuple #[SW.val x, .bool (isAt c t)]) ∧ isSl w' x (atV c t) ∧ Below w.heap.size w w'
theorem at_no {c : List SV} {t : TV} {w w' : World} (h : rightSl c = false ∨ lookS c t = none) (hb : Below w.heap.size w w') : AtR c t w (.returned (.tuple #[.agg #[.int .i64 0, .int .i64 0, .int .i64 0, .int .i64 0, .int .i64 0, .slice none 0 0, .slice none 0 0, .slice none 0 0, .bool false, .bool false], .bool false])) w' := by
  have e1 : isAt c t = false := by
    unfold isAt
    rcases h with h | h
    · rw [h]; rfl
    · rw [h]; simp
  have e2 : atV c t = zSl := by
    unfold atV
    rcases h with h | h
    · rw [if_neg (by rw [h]; decide)]
    · rw [h]; split <;> rfl
  exact ⟨freshW TV.zero, by rw [e1]; rfl, by rw [e2]; exact isSl_fresh w' TV.zero, hb⟩
theorem at_yes {c : List SV} {t : TV} {w w' : World} {x : SW} {b : SV} (h : rightSl c = true) (k : lookS c t = some b) (hx : isSl w' x b) (hb : Below w.heap.size w w') : AtR c t w (.returned (.tuple #[SW.val x, .bool true])) w' := by
  have e1 : isAt c t = true := by unfold isAt; rw [h, k]; rfl
  have e2 : atV c t = b := by unfold atV; rw [if_pos h, k]; rfl
  exact ⟨x, by rw [e1], by rw [e2]; exact hx, hb⟩
theorem one_sliceS (p : Option Addr) (n c : Nat) : (Value.slice p n c).oneCell' = true := rfl
section
attribute [local go_sem ↓] storeSl eqTime
attribute [local go_sem] rowAt_head one_int one_bool one_sliceS
set_option maxRecDepth 100000 in
set_option maxHeartbeats 16000000 in
theorem pat_any (c : List SV) (v : Value) (t : TV) (w : World) (hs : SmallC 900000 c) (h : IsCl w v c) : Calls Tryz.prog 17 #[v, TV.val t] w (AtR c t w) := by
  have HC := Lib.hid h
  have HSm := Lib.hid hs
  obtain ⟨xs, hx0, hx1⟩ := h
  have HAr := Lib.hid hx1
  obtain ⟨pv, k0, rfl, ho⟩ := isOpenedD hx0
  have hxn : xs.length = c.length := hx1.1
  rw [hxn] at ho HC ⊢
  have HO := Lib.hid ho
  have hsz : c.length ≤ 900000 := hs.1
  have HNo : Hid (∀ W, rightSl c = false ∨ lookS c t = none → Below w.heap.size w W → AtR c t w (.returned (.tuple #[.agg #[.int .i64 0, .int .i64 0, .int .i64 0, .int .i64 0, .int .i64 0, .slice none 0 0, .slice none 0 0, .slice none 0 0, .bool false, .bool false], .bool false])) W) := fun W h1 h2 => at_no h1 h2
  have HYes : Hid (∀ W (x : SW) b, rightSl c = true → lookS c t = some b → isSl W x b → Below w.heap.size w W → AtR c t w (.returned (.tuple #[SW.val x, .bool true])) W) := fun W x b h1 h2 h3 h4 => at_yes h1 h2 h3 h4
  generalize AtR c t w = R at *
  have hb0 := ((Below.refl w.heap.size w).alloc (Nat.le_refl _) (.cells #[.int .i64 t.d, .int .i64 t.c0, .int .i64 t.c1, .int .i64 t.c2, .int .i64 t.c3] 25)).alloc (by simp) (.cells #[.int .i64 0, .int .i64 0, .int .i64 0, .int .i64 0, .int .i64 0, .slice none 0 0, .slice none 0 0, .slice none 0 0, .bool false, .bool false] 40)
  have hbt := (BT5.new w t).more (.cells #[.int .i64 0, .int .i64 0, .int .i64 0, .int .i64 0, .int .i64 0, .slice none 0 0, .slice none 0 0, .slice none 0 0, .bool false, .bool false] 40)
  have hbs := Boxed.new (w.alloc (.cells #[.int .i64 t.d, .int .i64 t.c0, .int .i64 t.c1, .int .i64 t.c2, .int .i64 t.c3] 25)) #[.int .i64 0, .int .i64 0, .int .i64 0, .int .i64 0, .int .i64 0, .slice none 0 0, .slice none 0 0, .slice none 0 0, .bool false, .bool false] 40
  rw [World.size_alloc] at hbs
  clear hx0 hx1 ho hxn hs
  obtain ⟨td, t0, t1, t2, t3⟩ := t
  dsimp only at hb0 hbt hbs
  go_enter Tryz.func17, Tryz.ntmps17
  go_upto_region 1 with (fail)
  generalize (w.alloc (.cells #[.int .i64 td, .int .i64 t0, .int .i64 t1, .int .i64 t2, .int .i64 t3] 25)).alloc (.cells #[.int .i64 0, .int .i64 0, .int .i64 0, .int .i64 0, .int .i64 0, .slice none 0 0, .slice none 0 0, .slice none 0 0, .bool false, .bool false] 40) = w0 at *
  have HB0 := Lib.hid hb0
  have HT0 := Lib.hid hbt
  have HX0 := Lib.hid hbs
  have HBs : Hid (w.heap.size ≤ w.heap.size + 1) := Nat.le_succ _
  have HC0 := Lib.hid (HC.out.below hb0)
  have HZ0 := Lib.hid hbs.lt
  have HZt := Lib.hid hbt.l
  clear hb0 hbt hbs HC
  generalize hbs0 : w.heap.size + 1 = bs at *
  have HF := Lib.hid (pfind_any c _ ⟨td, t0, t1, t2, t3⟩ w0 hsz HC0.out)
  obtain ⟨z0, z1, z2, z3, z4, zl⟩ := HT0.out
  dsimp only at z0 z1 z2 z3 z4
  go_wp2_with fail
  refine (HF.out).mono ?_
  rintro e w1 ⟨r, rfl, hr, hb1⟩
  have HB1 := Lib.hid (HB0.out.trans (hb1.mono HB0.out.size))
  have HX1 := Lib.hid (HX0.out.below hb1 HZ0.out)
  have HC1 := Lib.hid (HC0.out.below hb1)
  clear hb1 HF HT0 HX0 HC0 z0 z1 z2 z3 z4 zl
  rcases hr with ⟨rfl, hno⟩ | ⟨k, hk, rfl, hkt, hlook⟩
  · have N0 := boxed_rowS HX1.out
    have HNo1 := Lib.hid (fun W => HNo.out W (.inr hno))
    clear HNo HYes hno
    go_wp2_with fail
    refine gen_q (fun W' => rowOf W' bs = some #[.int .i64 0, .int .i64 0, .int .i64 0, .int .i64 0, .int .i64 0, .slice none 0 0, .slice none 0 0, .slice none 0 0, .bool false, .bool false] ∧ Below w.heap.size w W') ⟨row_set_same N0, below_setRS HB1.out HBs.out⟩ ?_
    rintro w9 ⟨N9, hb9⟩
    have q0 : w9.cell? ⟨bs, 0, none⟩ = some (.int .i64 0) := rowOf_cell N9 0
    have q1 : w9.cell? ⟨bs, 1, none⟩ = some (.int .i64 0) := rowOf_cell N9 1
    have q2 : w9.cell? ⟨bs, 2, none⟩ = some (.int .i64 0) := rowOf_cell N9 2
    have q3 : w9.cell? ⟨bs, 3, none⟩ = some (.int .i64 0) := rowOf_cell N9 3
    have q4 : w9.cell? ⟨bs, 4, none⟩ = some (.int .i64 0) := rowOf_cell N9 4
    have q5 : w9.cell? ⟨bs, 5, none⟩ = some (.slice none 0 0) := rowOf_cell N9 5
    have q6 : w9.cell? ⟨bs, 6, none⟩ = some (.slice none 0 0) := rowOf_cell N9 6
    have q7 : w9.cell? ⟨bs, 7, none⟩ = some (.slice none 0 0) := rowOf_cell N9 7
    have q8 : w9.cell? ⟨bs, 8, none⟩ = some (.bool false) := rowOf_cell N9 8
    have q9 : w9.cell? ⟨bs, 9, none⟩ = some (.bool false) := rowOf_cell N9 9
    clear N9
    exact bodyPost_ret (v := .tuple #[.agg #[.int .i64 0, .int .i64 0, .int .i64 0, .int .i64 0, .int .i64 0, .slice none 0 0, .slice none 0 0, .slice none 0 0, .bool false, .bool false], .bool false]) (by simp [results, Tryz.results17, go_sem, q0, q1, q2, q3, q4, q5, q6, q7, q8, q9]) rfl (HNo1.out w9 hb9)
  · have HRi := Lib.hid (prightC_any c _ w1 HSm.out HC1.out)
    have hi0 : ¬ (k : Int) < 0 := by omega
    have hic : (k : Int) < (c.length : Int) := by omega
    have HNo1 := Lib.hid (fun W h => HNo.out W (.inl h))
    have HYes1 := Lib.hid (fun W x h => HYes.out W x _ h hlook)
    generalize hrr : rightSl c = rr at *
    clear HNo HYes hlook hkt
    go_wp2_with fail
    refine (HRi.out).mono ?_
    rintro e w2 ⟨rfl, hb2⟩
    have HB2 := Lib.hid (HB1.out.trans (hb2.mono HB1.out.size))
    have N0 := boxed_rowS (HX1.out.below hb2 HX1.out.lt)
    clear hb2 HRi HX1 HC1 HB1
    cases rr
    · have HNo2 := Lib.hid (fun W => HNo1.out W (by trivial))
      clear HNo1 HYes1 hrr
      go_wp2_with fail
      refine gen_q (fun W' => rowOf W' bs = some #[.int .i64 0, .int .i64 0, .int .i64 0, .int .i64 0, .int .i64 0, .slice none 0 0, .slice none 0 0, .slice none 0 0, .bool false, .bool false] ∧ Below w.heap.size w W') ⟨row_set_same N0, below_setRS HB2.out HBs.out⟩ ?_
      rintro w9 ⟨N9, hb9⟩
      have q0 : w9.cell? ⟨bs, 0, none⟩ = some (.int .i64 0) := rowOf_cell N9 0
      have q1 : w9.cell? ⟨bs, 1, none⟩ = some (.int .i64 0) := rowOf_cell N9 1
      have q2 : w9.cell? ⟨bs, 2, none⟩ = some (.int .i64 0) := rowOf_cell N9 2
      have q3 : w9.cell? ⟨bs, 3, none⟩ = some (.int .i64 0) := rowOf_cell N9 3
      have q4 : w9.cell? ⟨bs, 4, none⟩ = some (.int .i64 0) := rowOf_cell N9 4
      have q5 : w9.cell? ⟨bs, 5, none⟩ = some (.slice none 0 0) := rowOf_cell N9 5
      have q6 : w9.cell? ⟨bs, 6, none⟩ = some (.slice none 0 0) := rowOf_cell N9 6
      have q7 : w9.cell? ⟨bs, 7, none⟩ = some (.slice none 0 0) := rowOf_cell N9 7
      have q8 : w9.cell? ⟨bs, 8, none⟩ = some (.bool false) := rowOf_cell N9 8
      have q9 : w9.cell? ⟨bs, 9, none⟩ = some (.bool false) := rowOf_cell N9 9
      clear N9
      exact bodyPost_ret (v := .tuple #[.agg #[.int .i64 0, .int .i64 0, .int .i64 0, .int .i64 0, .int .i64 0, .slice none 0 0, .slice none 0 0, .slice none 0 0, .bool false, .bool false], .bool false]) (by simp [results, Tryz.results17, go_sem, q0, q1, q2, q3, q4, q5, q6, q7, q8, q9]) rfl (HNo2.out w9 hb9)
    · obtain ⟨b, off, rfl, hb, hrow⟩ := HO.out k hk
      have hxl : xs.length = c.length := HAr.out.1
      obtain ⟨e0, e1, e2, e3, e4, e5, e6, e7, e8, e9⟩ := atSl (hrow.below HB2.out hb) k (by omega)
      have HYes2 := Lib.hid (fun W (hW : Below w.heap.size w W) => HYes1.out W xs[k]! (by trivial) ((HAr.out.2 k hk).below hW) hW)
      generalize xs[k]! = x at *
      obtain ⟨⟨x0, x1, x2, x3, x4⟩, p0, n0, c0, p1, n1, c1, p2, n2, c2, xd, xf⟩ := x
      dsimp only at e0 e1 e2 e3 e4 e5 e6 e7 e8 e9 HYes2
      clear HNo1 HYes1 hrr hrow hxl
      go_wp2_with fail
      refine gen_q (fun W' => rowOf W' bs = some #[.int .i64 x0, .int .i64 x1, .int .i64 x2, .int .i64 x3, .int .i64 x4, .slice p0 n0 c0, .slice p1 n1 c1, .slice p2 n2 c2, .bool xd, .bool xf] ∧ Below w.heap.size w W') ⟨row_set_same N0, below_setRS HB2.out HBs.out⟩ ?_
      rintro w9 ⟨N9, hb9⟩
      have q0 : w9.cell? ⟨bs, 0, none⟩ = some (.int .i64 x0) := rowOf_cell N9 0
      have q1 : w9.cell? ⟨bs, 1, none⟩ = some (.int .i64 x1) := rowOf_cell N9 1
      have q2 : w9.cell? ⟨bs, 2, none⟩ = some (.int .i64 x2) := rowOf_cell N9 2
      have q3 : w9.cell? ⟨bs, 3, none⟩ = some (.int .i64 x3) := rowOf_cell N9 3
      have q4 : w9.cell? ⟨bs, 4, none⟩ = some (.int .i64 x4) := rowOf_cell N9 4
      have q5 : w9.cell? ⟨bs, 5, none⟩ = some (.slice p0 n0 c0) := rowOf_cell N9 5
      have q6 : w9.cell? ⟨bs, 6, none⟩ = some (.slice p1 n1 c1) := rowOf_cell N9 6
      have q7 : w9.cell? ⟨bs, 7, none⟩ = some (.slice p2 n2 c2) := rowOf_cell N9 7
      have q8 : w9.cell? ⟨bs, 8, none⟩ = some (.bool xd) := rowOf_cell N9 8
      have q9 : w9.cell? ⟨bs, 9, none⟩ = some (.bool xf) := rowOf_cell N9 9
      clear N9
      exact bodyPost_ret (v := .tuple #[.agg #[.int .i64 x0, .int .i64 x1, .int .i64 x2, .int .i64 x3, .int .i64 x4, .slice p0 n0 c0, .slice p1 n1 c1, .slice p2 n2 c2, .bool xd, .bool xf], .bool true]) (by simp [results, Tryz.results17, go_sem, q0, q1, q2, q3, q4, q5, q6, q7, q8, q9]) rfl (HYes2.out w9 hb9)
set_option maxRecDepth 100000 in
set_option maxHeartbeats 16000000 in
theorem rat_any (c : List SV) (v : Value) (t : TV) (w : World) (hs : SmallC 900000 c) (h : IsCl w v c) : Calls Tryz.prog 18 #[v, TV.val t] w (AtR c t w) := by
  have HC := Lib.hid h
  have HSm := Lib.hid hs
  obtain ⟨xs, hx0, hx1⟩ := h
  have HAr := Lib.hid hx1
  obtain ⟨pv, k0, rfl, ho⟩ := isOpenedD hx0
  have hxn : xs.length = c.length := hx1.1
  rw [hxn] at ho HC ⊢
  have HO := Lib.hid ho
  have hsz : c.length ≤ 900000 := hs.1
  have HNo : Hid (∀ W, rightSl c = false ∨ lookS c t = none → Below w.heap.size w W → AtR c t w (.returned (.tuple #[.agg #[.int .i64 0, .int .i64 0, .int .i64 0, .int .i64 0, .int .i64 0, .slice none 0 0, .slice none 0 0, .slice none 0 0, .bool false, .bool false], .bool false])) W) := fun W h1 h2 => at_no h1 h2
  have HYes : Hid (∀ W (x : SW) b, rightSl c = true → lookS c t = some b → isSl W x b → Below w.heap.size w W → AtR c t w (.returned (.tuple #[SW.val x, .bool true])) W) := fun W x b h1 h2 h3 h4 => at_yes h1 h2 h3 h4
  generalize AtR c t w = R at *
  have hb0 := ((Below.refl w.heap.size w).alloc (Nat.le_refl _) (.cells #[.int .i64 t.d, .int .i64 t.c0, .int .i64 t.c1, .int .i64 t.c2, .int .i64 t.c3] 25)).alloc (by simp) (.cells #[.int .i64 0, .int .i64 0, .int .i64 0, .int .i64 0, .int .i64 0, .slice none 0 0, .slice none 0 0, .slice none 0 0, .bool false, .bool false] 40)
  have hbt := (BT5.new w t).more (.cells #[.int .i64 0, .int .i64 0, .int .i64 0, .int .i64 0, .int .i64 0, .slice none 0 0, .slice none 0 0, .slice none 0 0, .bool false, .bool false] 40)
  have hbs := Boxed.new (w.alloc (.cells #[.int .i64 t.d, .int .i64 t.c0, .int .i64 t.c1, .int .i64 t.c2, .int .i64 t.c3] 25)) #[.int .i64 0, .int .i64 0, .int .i64 0, .int .i64 0, .int .i64 0, .slice none 0 0, .slice none 0 0, .slice none 0 0, .bool false, .bool false] 40
  rw [World.size_alloc] at hbs
  clear hx0 hx1 ho hxn hs
  obtain ⟨td, t0, t1, t2, t3⟩ := t
  dsimp only at hb0 hbt hbs
  go_enter Tryz.func18, Tryz.ntmps18
  go_upto_region 1 with (fail)
  generalize (w.alloc (.cells #[.int .i64 td, .int .i64 t0, .int .i64 t1, .int .i64 t2, .int .i64 t3] 25)).alloc (.cells #[.int .i64 0, .int .i64 0, .int .i64 0, .int .i64 0, .int .i64 0, .slice none 0 0, .slice none 0 0, .slice none 0 0, .bool false, .bool false] 40) = w0 at *
  have HB0 := Lib.hid hb0
  have HT0 := Lib.hid hbt
  have HX0 := Lib.hid hbs
  have HBs : Hid (w.heap.size ≤ w.heap.size + 1) := Nat.le_succ _
  have HC0 := Lib.hid (HC.out.below hb0)
  have HZ0 := Lib.hid hbs.lt
  have HZt := Lib.hid hbt.l
  clear hb0 hbt hbs HC
  generalize hbs0 : w.heap.size + 1 = bs at *
  have HRi := Lib.hid (rrightC_any c _ w0 HSm.out HC0.out)
  have HNo1 := Lib.hid (fun W h => HNo.out W h)
  have HYes1 := Lib.hid (fun W x b h1 h2 => HYes.out W x b h1 h2)
  clear HNo HYes
  generalize hrr : rightSl c = rr at *
  go_wp2_with fail
  refine (HRi.out).mono ?_
  rintro e w1 ⟨rfl, hb1⟩
  have HB1 := Lib.hid (HB0.out.trans (hb1.mono HB0.out.size))
  have HX1 := Lib.hid (HX0.out.below hb1 HZ0.out)
  have HT1 := Lib.hid (HT0.out.below hb1)
  clear hb1 HRi HX0 HT0 HC0 HB0
  cases rr
  · have HNo2 := Lib.hid (fun W => HNo1.out W (.inl (by trivial)))
    have N0 := boxed_rowS HX1.out
    clear HNo1 HYes1 hrr
    by_cases h0 : 0 < c.length
    · have hz : (0 : Int) < (c.length : Int) := by omega
      go_wp2
      refine wp_loop_rounds 1 ?_
      rw [rounds_succ]
      go_wp2_with fail
      refine gen_q (fun W' => rowOf W' bs = some #[.int .i64 0, .int .i64 0, .int .i64 0, .int .i64 0, .int .i64 0, .slice none 0 0, .slice none 0 0, .slice none 0 0, .bool false, .bool false] ∧ Below w.heap.size w W') ⟨row_set_same N0, below_setRS HB1.out HBs.out⟩ ?_
      rintro w9 ⟨N9, hb9⟩
      have q0 : w9.cell? ⟨bs, 0, none⟩ = some (.int .i64 0) := rowOf_cell N9 0
      have q1 : w9.cell? ⟨bs, 1, none⟩ = some (.int .i64 0) := rowOf_cell N9 1
      have q2 : w9.cell? ⟨bs, 2, none⟩ = some (.int .i64 0) := rowOf_cell N9 2
      have q3 : w9.cell? ⟨bs, 3, none⟩ = some (.int .i64 0) := rowOf_cell N9 3
      have q4 : w9.cell? ⟨bs, 4, none⟩ = some (.int .i64 0) := rowOf_cell N9 4
      have q5 : w9.cell? ⟨bs, 5, none⟩ = some (.slice none 0 0) := rowOf_cell N9 5
      have q6 : w9.cell? ⟨bs, 6, none⟩ = some (.slice none 0 0) := rowOf_cell N9 6
      have q7 : w9.cell? ⟨bs, 7, none⟩ = some (.slice none 0 0) := rowOf_cell N9 7
      have q8 : w9.cell? ⟨bs, 8, none⟩ = some (.bool false) := rowOf_cell N9 8
      have q9 : w9.cell? ⟨bs, 9, none⟩ = some (.bool false) := rowOf_cell N9 9
      clear N9
      exact bodyPost_ret (v := .tuple #[.agg #[.int .i64 0, .int .i64 0, .int .i64 0, .int .i64 0, .int .i64 0, .slice none 0 0, .slice none 0 0, .slice none 0 0, .bool false, .bool false], .bool false]) (by simp [results, Tryz.results18, go_sem, q0, q1, q2, q3, q4, q5, q6, q7, q8, q9]) rfl (HNo2.out w9 hb9)
    · have hz : ¬ (0 : Int) < (c.length : Int) := by omega
      go_wp2
      refine wp_loop_rounds 1 ?_
      rw [rounds_succ]
      go_wp2_with fail
      refine gen_q (fun W' => rowOf W' bs = some #[.int .i64 0, .int .i64 0, .int .i64 0, .int .i64 0, .int .i64 0, .slice none 0 0, .slice none 0 0, .slice none 0 0, .bool false, .bool false] ∧ Below w.heap.size w W') ⟨row_set_same N0, below_setRS HB1.out HBs.out⟩ ?_
      rintro w9 ⟨N9, hb9⟩
      have q0 : w9.cell? ⟨bs, 0, none⟩ = some (.int .i64 0) := rowOf_cell N9 0
      have q1 : w9.cell? ⟨bs, 1, none⟩ = some (.int .i64 0) := rowOf_cell N9 1
      have q2 : w9.cell? ⟨bs, 2, none⟩ = some (.int .i64 0) := rowOf_cell N9 2
      have q3 : w9.cell? ⟨bs, 3, none⟩ = some (.int .i64 0) := rowOf_cell N9 3
      have q4 : w9.cell? ⟨bs, 4, none⟩ = some (.int .i64 0) := rowOf_cell N9 4
      have q5 : w9.cell? ⟨bs, 5, none⟩ = some (.slice none 0 0) := rowOf_cell N9 5
      have q6 : w9.cell? ⟨bs, 6, none⟩ = some (.slice none 0 0) := rowOf_cell N9 6
      have q7 : w9.cell? ⟨bs, 7, none⟩ = some (.slice none 0 0) := rowOf_cell N9 7
      have q8 : w9.cell? ⟨bs, 8, none⟩ = some (.bool false) := rowOf_cell N9 8
      have q9 : w9.cell? ⟨bs, 9, none⟩ = some (.bool false) := rowOf_cell N9 9
      clear N9
      exact bodyPost_ret (v := .tuple #[.agg #[.int .i64 0, .int .i64 0, .int .i64 0, .int .i64 0, .int .i64 0, .slice none 0 0, .slice none 0 0, .slice none 0 0, .bool false, .bool false], .bool false]) (by simp [results, Tryz.results18, go_sem, q0, q1, q2, q3, q4, q5, q6, q7, q8, q9]) rfl (HNo2.out w9 hb9)
  · have HNo2 := Lib.hid (fun W h => HNo1.out W (.inr h))
    have HYes2 := Lib.hid (fun W x b => HYes1.out W x b (by trivial))
    clear HNo1 HYes1 hrr
    go_wp2
    go_loopg [7] c.length (fun gg i wr => ∃ k : Nat, k ≤ c.length ∧ c.length - k ≤ gg ∧ i = .int .i64 (k : Int) ∧ Hid (Below w.heap.size w wr) ∧ Hid (BT5 wr w.heap.size ⟨td, t0, t1, t2, t3⟩) ∧ Hid (Boxed wr bs #[.int .i64 0, .int .i64 0, .int .i64 0, .int .i64 0, .int .i64 0, .slice none 0 0, .slice none 0 0, .slice none 0 0, .bool false, .bool false] 40) ∧ Hid (∀ j, j < k → (c[j]!).t ≠ ⟨td, t0, t1, t2, t3⟩))
    case atStart => exact ⟨0, Nat.zero_le _, by omega, rfl, HB1.out, HT1.out, HX1.out, fun j hj => absurd hj (Nat.not_lt_zero j)⟩
    case round =>
      obtain ⟨k, hkn, hg, rfl, HB, HT, HX, HM⟩ := hrel
      clear HB1 HT1 HX1
      by_cases hlt : k < c.length
      · have hlz : (k : Int) < (c.length : Int) := by omega
        obtain ⟨b, off, rfl, hb, hrow⟩ := HO.out k hlt
        have hxl : xs.length = c.length := HAr.out.1
        obtain ⟨e0, e1, e2, e3, e4, e5, e6, e7, e8, e9⟩ := atSl (hrow.below HB.out hb) k (by omega)
        have hxt := (HAr.out.2 k hlt).t
        have HEq := eqT_eq xs[k]!.t ⟨td, t0, t1, t2, t3⟩
        rw [hxt] at HEq
        have HLk : Hid ((c[k]!).t = ⟨td, t0, t1, t2, t3⟩ → lookS c ⟨td, t0, t1, t2, t3⟩ = some c[k]!) := fun h => look_at hlt h HM.out
        have HN2 : Hid (¬ (c[k]!).t = ⟨td, t0, t1, t2, t3⟩ → ∀ j, j < k + 1 → (c[j]!).t ≠ ⟨td, t0, t1, t2, t3⟩) := fun q j hj => by
          by_cases e : j = k
          · subst e; exact q
          · exact HM.out j (by omega)
        have HYes3 := Lib.hid (fun W h (hW : Below w.heap.size w W) => HYes2.out W xs[k]! c[k]! (HLk.out h) ((HAr.out.2 k hlt).below hW) hW)
        rw [← hxt] at HEq HN2 HYes3
        generalize xs[k]! = x at *
        obtain ⟨⟨x0, x1, x2, x3, x4⟩, p0, n0, c0, p1, n1, c1, p2, n2, c2, xd, xf⟩ := x
        dsimp only at e0 e1 e2 e3 e4 e5 e6 e7 e8 e9 HYes3 HEq HN2
        have P0 := fun p => beh_cell e0 p
        have P1 := fun p => beh_cell e1 p
        have P2 := fun p => beh_cell e2 p
        have P3 := fun p => beh_cell e3 p
        have P4 := fun p => beh_cell e4 p
        have B0 := fun p => beh_cell HT.out.c0 p
        have B1 := fun p => beh_cell HT.out.c1 p
        have B2 := fun p => beh_cell HT.out.c2 p
        have B3 := fun p => beh_cell HT.out.c3 p
        have B4 := fun p => beh_cell HT.out.c4 p
        dsimp only at B0 B1 B2 B3 B4
        have HRw := Lib.hid (fun W (hW : Below w.heap.size w W) => hrow.below hW hb)
        clear hrow hxl hxt HM HLk
        cases heq : eqT ⟨x0, x1, x2, x3, x4⟩ ⟨td, t0, t1, t2, t3⟩
        · rw [heq] at HEq
          have HM2 := Lib.hid (HN2.out (of_decide_eq_false HEq.symm))
          clear HN2 HYes3 HEq e5 e6 e7 e8 e9
          go_wp2_with fail
          refine wp_region_beh (by kernel_rfl) (by kernel_rfl) ?_
          repeat (first | go_big_quiet_step (fail) | quiet_step (fail))
          refine wpQuiet_nil ?_
          intro _ hw'
          obtain ⟨g, hw''⟩ := hw'
          subst hw''
          have HBg := Lib.hid (bcall HB.out g.h HB.out.size)
          have HTg := Lib.hid (HT.out.below g.h)
          have HXg := Lib.hid (HX.out.below g.h HX.out.lt)
          generalize g.w = wq at *
          clear g P0 P1 P2 P3 P4 B0 B1 B2 B3 B4
          go_wp2
          go_roundg (c.length - (k + 1))
          case measure => omega
          case rel => exact ⟨k + 1, by omega, by omega, by go_num, HBg.out, HTg.out, HXg.out, HM2.out⟩
        · rw [heq] at HEq
          have HYes4 := Lib.hid (fun W => HYes3.out W (of_decide_eq_true HEq.symm))
          clear HN2 HYes3 HEq
          go_wp2_with fail
          refine wp_region_beh (by kernel_rfl) (by kernel_rfl) ?_
          repeat (first | go_big_quiet_step (fail) | quiet_step (fail))
          refine wpQuiet_nil ?_
          intro _ hw'
          obtain ⟨g, hw''⟩ := hw'
          subst hw''
          have HBg := Lib.hid (bcall HB.out g.h HB.out.size)
          have N0 := boxed_rowS (HX.out.below g.h HX.out.lt)
          replace e0 := P0 g
          replace e1 := P1 g
          replace e2 := P2 g
          replace e3 := P3 g
          replace e4 := P4 g
          replace e5 := beh_cell e5 g
          replace e6 := beh_cell e6 g
          replace e7 := beh_cell e7 g
          replace e8 := beh_cell e8 g
          replace e9 := beh_cell e9 g
          generalize g.w = wq at *
          clear g P0 P1 P2 P3 P4 B0 B1 B2 B3 B4 HX HT
          go_wp2_with fail
          refine gen_q (fun W' => rowOf W' bs = some #[.int .i64 x0, .int .i64 x1, .int .i64 x2, .int .i64 x3, .int .i64 x4, .slice p0 n0 c0, .slice p1 n1 c1, .slice p2 n2 c2, .bool xd, .bool xf] ∧ Below w.heap.size w W') ⟨row_set_same N0, below_setRS HBg.out HBs.out⟩ ?_
          rintro w9 ⟨N9, hb9⟩
          have q0 : w9.cell? ⟨bs, 0, none⟩ = some (.int .i64 x0) := rowOf_cell N9 0
          have q1 : w9.cell? ⟨bs, 1, none⟩ = some (.int .i64 x1) := rowOf_cell N9 1
          have q2 : w9.cell? ⟨bs, 2, none⟩ = some (.int .i64 x2) := rowOf_cell N9 2
          have q3 : w9.cell? ⟨bs, 3, none⟩ = some (.int .i64 x3) := rowOf_cell N9 3
          have q4 : w9.cell? ⟨bs, 4, none⟩ = some (.int .i64 x4) := rowOf_cell N9 4
          have q5 : w9.cell? ⟨bs, 5, none⟩ = some (.slice p0 n0 c0) := rowOf_cell N9 5
          have q6 : w9.cell? ⟨bs, 6, none⟩ = some (.slice p1 n1 c1) := rowOf_cell N9 6
          have q7 : w9.cell? ⟨bs, 7, none⟩ = some (.slice p2 n2 c2) := rowOf_cell N9 7
          have q8 : w9.cell? ⟨bs, 8, none⟩ = some (.bool xd) := rowOf_cell N9 8
          have q9 : w9.cell? ⟨bs, 9, none⟩ = some (.bool xf) := rowOf_cell N9 9
          clear N9
          exact bodyPost_ret (v := .tuple #[.agg #[.int .i64 x0, .int .i64 x1, .int .i64 x2, .int .i64 x3, .int .i64 x4, .slice p0 n0 c0, .slice p1 n1 c1, .slice p2 n2 c2, .bool xd, .bool xf], .bool true]) (by simp [results, Tryz.results18, go_sem, q0, q1, q2, q3, q4, q5, q6, q7, q8, q9]) rfl (HYes4.out w9 hb9)
      · obtain rfl : k = c.length := by omega
        have hlz : ¬ (c.length : Int) < (c.length : Int) := by omega
        have HNo3 := Lib.hid (fun W => HNo2.out W (look_no HM.out))
        have N0 := boxed_rowS HX.out
        clear HNo2 HYes2 HM
        go_wp2_with fail
        refine gen_q (fun W' => rowOf W' bs = some #[.int .i64 0, .int .i64 0, .int .i64 0, .int .i64 0, .int .i64 0, .slice none 0 0, .slice none 0 0, .slice none 0 0, .bool false, .bool false] ∧ Below w.heap.size w W') ⟨row_set_same N0, below_setRS HB.out HBs.out⟩ ?_
        rintro w9 ⟨N9, hb9⟩
        have q0 : w9.cell? ⟨bs, 0, none⟩ = some (.int .i64 0) := rowOf_cell N9 0
        have q1 : w9.cell? ⟨bs, 1, none⟩ = some (.int .i64 0) := rowOf_cell N9 1
        have q2 : w9.cell? ⟨bs, 2, none⟩ = some (.int .i64 0) := rowOf_cell N9 2
        have q3 : w9.cell? ⟨bs, 3, none⟩ = some (.int .i64 0) := rowOf_cell N9 3
        have q4 : w9.cell? ⟨bs, 4, none⟩ = some (.int .i64 0) := rowOf_cell N9 4
        have q5 : w9.cell? ⟨bs, 5, none⟩ = some (.slice none 0 0) := rowOf_cell N9 5
        have q6 : w9.cell? ⟨bs, 6, none⟩ = some (.slice none 0 0) := rowOf_cell N9 6
        have q7 : w9.cell? ⟨bs, 7, none⟩ = some (.slice none 0 0) := rowOf_cell N9 7
        have q8 : w9.cell? ⟨bs, 8, none⟩ = some (.bool false) := rowOf_cell N9 8
        have q9 : w9.cell? ⟨bs, 9, none⟩ = some (.bool false) := rowOf_cell N9 9
        clear N9
        exact bodyPost_ret (v := .tuple #[.agg #[.int .i64 0, .int .i64 0, .int .i64 0, .int .i64 0, .int .i64 0, .slice none 0 0, .slice none 0 0, .slice none 0 0, .bool false, .bool false], .bool false]) (by simp [results, Tryz.results18, go_sem, q0, q1, q2, q3, q4, q5, q6, q7, q8, q9]) rfl (HNo3.out w9 hb9)
end
end Go.Proofs.YthhceggcdaljdaaGreat
