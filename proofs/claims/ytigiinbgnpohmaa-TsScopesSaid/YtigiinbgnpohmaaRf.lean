import Derived.Test.YtigiinbgnpohmaaRe
namespace Go.Proofs.Ytigiinbgnpohmaa
open Go.RowKit
set_option linter.unusedVariables false
set_option linter.unusedSimpArgs false

def lastL (xs : List Int) : Int := nth xs (xs.length - 1)
/-- the step as the reference makes it, on the list -/
def stepL (how : Int) (xs : List Int) : List Int := if how = 0 then xs ++ [0] else if how = 1 then xs.dropLast else xs.set (xs.length - 1) (lastL xs + 1)
def stepS (how d c0 c1 c2 c3 : Int) : Value :=
  if how = 0 then stepV (enterB d c0 c1 c2 c3) (d + 1) c0 c1 c2 c3 else if how = 1 then leftV d c0 c1 c2 c3 else nextV d c0 c1 c2 c3
theorem step_lists {d c0 c1 c2 c3 : Int} (how : Int) (h : rightB d c0 c1 c2 c3 = true) :
    ofV (stepL how (coords d c0 c1 c2 c3)) = stepS how d c0 c1 c2 c3 := by
  have hp := right_of h
  have hd : d = 1 ∨ d = 2 ∨ d = 3 ∨ d = 4 := by have := hp.2.1; have := hp.1; omega
  unfold stepL stepS
  rcases hd with rfl | rfl | rfl | rfl
  all_goals simp [rightP, greatestS] at hp
  · obtain rfl : c1 = 0 := by omega
    obtain rfl : c2 = 0 := by omega
    obtain rfl : c3 = 0 := by omega
    by_cases h0 : how = 0
    · rw [if_pos h0, if_pos h0]
      have hr : rightB 2 c0 0 0 0 = true := decide_eq_true (by simp [rightP, greatestS]; omega)
      simp [coords, ofV, ofB, nth, enterB, h, hr, stepV, gate]
    · rw [if_neg h0, if_neg h0]
      by_cases h1 : how = 1
      · rw [if_pos h1, if_pos h1]
        have hr : rightB 0 0 0 0 0 = false := right_no (by simp [rightP, greatestS]; try omega)
        simp [coords, ofV, ofB, nth, leftV, leaveB, h, hr, stepV, gate]
      · rw [if_neg h1, if_neg h1]
        by_cases hl : c0 = 1048576
        · have hr : rightB 1 1048577 0 0 0 = false := right_no (by simp [rightP, greatestS]; try omega)
          simp [coords, ofV, ofB, nth, nextV, nextB, lastOf, lastL, greatestS, h, hr, hl, stepV, gate]
        · have hr : rightB 1 (c0 + 1) 0 0 0 = true := decide_eq_true (by simp [rightP, greatestS]; omega)
          simp [coords, ofV, ofB, nth, nextV, nextB, lastOf, lastL, greatestS, h, hr, hl, stepV, gate]
  · obtain rfl : c2 = 0 := by omega
    obtain rfl : c3 = 0 := by omega
    by_cases h0 : how = 0
    · rw [if_pos h0, if_pos h0]
      have hr : rightB 3 c0 c1 0 0 = true := decide_eq_true (by simp [rightP, greatestS]; omega)
      simp [coords, ofV, ofB, nth, enterB, h, hr, stepV, gate]
    · rw [if_neg h0, if_neg h0]
      by_cases h1 : how = 1
      · rw [if_pos h1, if_pos h1]
        have hr : rightB 1 c0 0 0 0 = true := decide_eq_true (by simp [rightP, greatestS]; omega)
        simp [coords, ofV, ofB, nth, leftV, leaveB, h, hr, stepV, gate]
      · rw [if_neg h1, if_neg h1]
        by_cases hl : c1 = 64
        · have hr : rightB 2 c0 65 0 0 = false := right_no (by simp [rightP, greatestS]; try omega)
          simp [coords, ofV, ofB, nth, nextV, nextB, lastOf, lastL, greatestS, h, hr, hl, stepV, gate]
        · have hr : rightB 2 c0 (c1 + 1) 0 0 = true := decide_eq_true (by simp [rightP, greatestS]; omega)
          simp [coords, ofV, ofB, nth, nextV, nextB, lastOf, lastL, greatestS, h, hr, hl, stepV, gate]
  · obtain rfl : c3 = 0 := by omega
    by_cases h0 : how = 0
    · rw [if_pos h0, if_pos h0]
      have hr : rightB 4 c0 c1 c2 0 = true := decide_eq_true (by simp [rightP, greatestS]; omega)
      simp [coords, ofV, ofB, nth, enterB, h, hr, stepV, gate]
    · rw [if_neg h0, if_neg h0]
      by_cases h1 : how = 1
      · rw [if_pos h1, if_pos h1]
        have hr : rightB 2 c0 c1 0 0 = true := decide_eq_true (by simp [rightP, greatestS]; omega)
        simp [coords, ofV, ofB, nth, leftV, leaveB, h, hr, stepV, gate]
      · rw [if_neg h1, if_neg h1]
        by_cases hl : c2 = 64
        · have hr : rightB 3 c0 c1 65 0 = false := right_no (by simp [rightP, greatestS]; try omega)
          simp [coords, ofV, ofB, nth, nextV, nextB, lastOf, lastL, greatestS, h, hr, hl, stepV, gate]
        · have hr : rightB 3 c0 c1 (c2 + 1) 0 = true := decide_eq_true (by simp [rightP, greatestS]; omega)
          simp [coords, ofV, ofB, nth, nextV, nextB, lastOf, lastL, greatestS, h, hr, hl, stepV, gate]
  · by_cases h0 : how = 0
    · rw [if_pos h0, if_pos h0]
      have hr : rightB 5 c0 c1 c2 c3 = false := right_no (by simp [rightP, greatestS]; try omega)
      simp [coords, ofV, ofB, nth, enterB, h, hr, stepV, gate]
    · rw [if_neg h0, if_neg h0]
      by_cases h1 : how = 1
      · rw [if_pos h1, if_pos h1]
        have hr : rightB 3 c0 c1 c2 0 = true := decide_eq_true (by simp [rightP, greatestS]; omega)
        simp [coords, ofV, ofB, nth, leftV, leaveB, h, hr, stepV, gate]
      · rw [if_neg h1, if_neg h1]
        by_cases hl : c3 = 64
        · have hr : rightB 4 c0 c1 c2 65 = false := right_no (by simp [rightP, greatestS]; try omega)
          simp [coords, ofV, ofB, nth, nextV, nextB, lastOf, lastL, greatestS, h, hr, hl, stepV, gate]
        · have hr : rightB 4 c0 c1 c2 (c3 + 1) = true := decide_eq_true (by simp [rightP, greatestS]; omega)
          simp [coords, ofV, ofB, nth, nextV, nextB, lastOf, lastL, greatestS, h, hr, hl, stepV, gate]
theorem OwnI.grown {B : Nat} {w w' : World} {v : Value} {xs : List Int} (h : OwnI B w v xs) (hb : Below w.heap.size w w') : OwnI B w' v xs :=
  World.ownsRow.kept h (World.grownBy.mk (row := none) hb.os hb.tape hb.output hb.size (fun k hk _ => hb.block k hk)) (by cases hv : v.ownBlock <;> simp)
theorem OwnI.drewN {B : Nat} {w : World} {v : Value} {xs : List Int} (h : OwnI B w v xs) (n : Nat) : OwnI B (w.drewN n) v xs := h
theorem OwnI.dropLast {B g n cap : Nat} {w : World} {xs : List Int} (h : OwnI B w (.slice (some ⟨g, 0, none⟩) n cap) xs) (hn : n = xs.length) (k : Nat) (hk : k + 1 = n) : OwnI B w (.slice (some ⟨g, 0, none⟩) k cap) xs.dropLast := by
  rcases h.2 with ⟨hv, _⟩ | ⟨g', cap', cur, hv, hb, hg, hc, hm, hs, ht⟩
  · simp at hv
  · simp only [Value.slice.injEq, Option.some.injEq, Addr.mk.injEq, and_true, true_and] at hv
    obtain ⟨rfl, hn', rfl⟩ := hv
    have hl : xs.dropLast.length = k := by simp; omega
    refine ⟨by simp, .inr ⟨g, cap, cur, by rw [hl], hb, hg, by omega, hm, hs, ?_⟩⟩
    have e : xs.dropLast.map (Value.int .i64) = (xs.map (Value.int .i64)).take k := by rw [List.dropLast_eq_take, List.map_take]; congr 1; omega
    rw [hl, e, ← ht, List.take_take]
    congr 1; omega
theorem OwnI.set {B g n cap : Nat} {w : World} {xs : List Int} (h : OwnI B w (.slice (some ⟨g, 0, none⟩) n cap) xs) (hn : n = xs.length) (j : Nat) (z : Int) : OwnI B (w.setCell ⟨g, j, none⟩ (.int .i64 z)) (.slice (some ⟨g, 0, none⟩) n cap) (xs.set j z) := by
  subst hn
  have := (World.ownsRow.stored (w := w) (base := B) (e := 3) (size := 1) h j (.int .i64 z)).1
  unfold OwnI
  simpa [List.map_set] using this
theorem Own5.setFar {w : World} {b g : Nat} {v0 v1 v2 v3 v4 : Value} (h : Own5 w b v0 v1 v2 v3 v4) (o : Nat) (u : Value) (hne : b ≠ g) : Own5 (w.setCell ⟨g, o, none⟩ u) b v0 v1 v2 v3 v4 := by
  have hfar : ∀ (o' : Nat), (w.setCell ⟨g, o, none⟩ u).cell? ⟨b, o', none⟩ = w.cell? ⟨b, o', none⟩ := fun o' => World.cell?_setCell_other _ _ _ _ (fun e => hne (by injection e with e1; exact e1.symm))
  exact ⟨(hfar 0).trans h.l0, (hfar 1).trans h.l1, (hfar 2).trans h.l2, (hfar 3).trans h.l3, (hfar 4).trans h.l4,
    by rw [World.frozen?_setCell]; exact h.q0, by rw [World.frozen?_setCell]; exact h.q1, by rw [World.frozen?_setCell]; exact h.q2, by rw [World.frozen?_setCell]; exact h.q3, by rw [World.frozen?_setCell]; exact h.q4⟩
theorem stepL_len {how : Int} {xs : List Int} : (stepL how xs).length ≤ xs.length + 1 := by
  unfold stepL; split
  · simp
  · split
    · simp; omega
    · simp

set_option maxHeartbeats 4000000 in
theorem stepEnter (d c0 c1 c2 c3 : Int) (w : World) :
    Calls Try.prog 18 #[.agg #[.int .i64 d, .int .i64 c0, .int .i64 c1, .int .i64 c2, .int .i64 c3], .int .i64 0] w (Ret (stepS 0 d c0 c1 c2 c3) w) := by
  go_enter Try.func18, Try.ntmps18
  go_wp2_with fail
  refine (list_any _ _ _ _ _ _).mono ?_
  rintro e w1 hl1
  have hb1 : Below _ _ w1 := hl1.below
  have hz := hb1.size
  have hB := bcall (B := w.heap.size) (a := w) (by go_grown) hb1 (by go_size)
  have hr1 := (Own5.new _ (.int .i64 0) (.int .i64 0) (.int .i64 0) (.int .i64 0) (.int .i64 0) 24).below hb1 (by go_size)
  simp only [World.size_alloc] at *
  clear hb1
  rcases hl1 with ⟨hr, v, rfl, hv, hb1⟩ | ⟨hr, rfl, hb1⟩
  · clear hb1
    have hy := coords_len hr
    have hx := Lib.hid hy.1
    have hm4 : (coords d c0 c1 c2 c3).length ≤ 4 := by have := hx.out; omega
    have hm1 : 1 ≤ (coords d c0 c1 c2 c3).length := by have := hx.out; omega
    have hfin := Lib.hid (step_lists 0 hr)
    have hlast : 0 ≤ lastL (coords d c0 c1 c2 c3) ∧ lastL (coords d c0 c1 c2 c3) ≤ 1048576 := by
      have hp := right_of hr
      have hd : d = 1 ∨ d = 2 ∨ d = 3 ∨ d = 4 := by omega
      clear hfin hv
      rcases hd with rfl | rfl | rfl | rfl <;> simp [coords, lastL, nth, rightP, greatestS] at hp ⊢ <;> omega
    obtain ⟨hlast1, hlast2⟩ := hlast
    clear hy hx
    generalize coords d c0 c1 c2 c3 = xs at *
    simp only [World.size_alloc] at hv
    have hl2 := stepL_len (how := 0) (xs := xs)
    have hlt := hv.lt
    go_wp2_with (at_builtin; refine OwnI.append rfl _ _ rfl (World.ownsRow.alloc hv _) rfl ⟨w1.heap.size, 0, none⟩ 1 0 rfl (by simp [go_sem]) (by omega) (by simp; omega) ?_; intro v2 w2 hv2 hg2)
    have hBq : Below w.heap.size w w2 := (hB.alloc hB.size _).grown hg2 (by simp; omega) (fun k hk => by have := (hlt k hk).1; omega)
    have hrq := (hr1.alloc (.cells #[Value.int IntKind.i64 0] 3) (by omega)).grown hg2 (by simp; omega) (fun k hk => by have := (hlt k hk).1; omega)
    clear hr1 hB hg2 hlt hv
    refine (of_own (xs := stepL 0 xs) w2 hv2 (by omega)).mono ?_
    rintro e w3 ⟨rfl, hb3⟩
    have hB3 := bcall hBq hb3 hBq.size
    have hs3 := hb3.size
    obtain ⟨r0, r1, r2, r3, r4, s0, s1, s2, s3, s4⟩ := hrq.below hb3 (World.block_lt_of_cell? _ _ hrq.l0)
    clear hb3 hrq hBq
    simp only [ofV, stepV] at hfin ⊢
    go_wp2
    exact bodyPost_ret (v := ofV (stepL 0 xs)) (by simp [results, Try.results18, go_sem, r0, r1, r2, r3, r4]; rfl) rfl ⟨by rw [← hfin.out]; rfl, by repeat' (first | (with_reducible refine below_drewN ?_ _) | go_grown)⟩
  · have hf : Hid (stepS 0 d c0 c1 c2 c3 = stepV false 0 0 0 0 0) := by show _ = _; simp [stepS, enterB, leftV, leaveB, nextV, nextB, hr, stepV, gate]
    obtain ⟨r0, r1, r2, r3, r4, s0, s1, s2, s3, s4⟩ := hr1
    go_wp2
    exact bodyPost_ret (v := (Value.tuple #[.agg #[.int .i64 0, .int .i64 0, .int .i64 0, .int .i64 0, .int .i64 0], .bool false])) (by simp [results, Try.results18, go_sem, r0, r1, r2, r3, r4]) rfl ⟨by first | (rw [hf.out]; done) | (rw [hf.out]; rfl), by repeat' (first | (with_reducible refine below_drewN ?_ _) | go_grown)⟩

set_option maxHeartbeats 4000000 in
theorem stepLeave (d c0 c1 c2 c3 : Int) (w : World) :
    Calls Try.prog 18 #[.agg #[.int .i64 d, .int .i64 c0, .int .i64 c1, .int .i64 c2, .int .i64 c3], .int .i64 1] w (Ret (stepS 1 d c0 c1 c2 c3) w) := by
  go_enter Try.func18, Try.ntmps18
  go_wp2_with fail
  refine (list_any _ _ _ _ _ _).mono ?_
  rintro e w1 hl1
  have hb1 : Below _ _ w1 := hl1.below
  have hz := hb1.size
  have hB := bcall (B := w.heap.size) (a := w) (by go_grown) hb1 (by go_size)
  have hr1 := (Own5.new _ (.int .i64 0) (.int .i64 0) (.int .i64 0) (.int .i64 0) (.int .i64 0) 24).below hb1 (by go_size)
  simp only [World.size_alloc] at *
  clear hb1
  rcases hl1 with ⟨hr, v, rfl, hv, hb1⟩ | ⟨hr, rfl, hb1⟩
  · clear hb1
    have hy := coords_len hr
    have hx := Lib.hid hy.1
    have hm4 : (coords d c0 c1 c2 c3).length ≤ 4 := by have := hx.out; omega
    have hm1 : 1 ≤ (coords d c0 c1 c2 c3).length := by have := hx.out; omega
    have hfin := Lib.hid (step_lists 1 hr)
    have hlast : 0 ≤ lastL (coords d c0 c1 c2 c3) ∧ lastL (coords d c0 c1 c2 c3) ≤ 1048576 := by
      have hp := right_of hr
      have hd : d = 1 ∨ d = 2 ∨ d = 3 ∨ d = 4 := by omega
      clear hfin hv
      rcases hd with rfl | rfl | rfl | rfl <;> simp [coords, lastL, nth, rightP, greatestS] at hp ⊢ <;> omega
    obtain ⟨hlast1, hlast2⟩ := hlast
    clear hy hx
    generalize coords d c0 c1 c2 c3 = xs at *
    simp only [World.size_alloc] at hv
    have hl2 := stepL_len (how := 1) (xs := xs)
    obtain ⟨g, cap, rfl, hg, hgB, hgc, hgm, hcx, hfx⟩ := hv.cons_shape hm1
    unfold maxLen at hgm
    have hcx1 := Lib.hid hcx
    have hfx1 := Lib.hid hfx
    clear hcx hfx
    obtain ⟨k, hk⟩ : ∃ k, k + 1 = xs.length := ⟨xs.length - 1, by omega⟩
    have hv2 : OwnI (w.heap.size + 1 + 1 + 1) w1 (.slice (some ⟨g, 0, none⟩) k cap) (stepL 1 xs) := hv.dropLast rfl k hk
    have hBq := hB
    have hrq := hr1
    have Hk := Lib.hid hk
    have hk1 : ((xs.length : Int) - 1) = (k : Int) := by omega
    clear hr1 hB hv hk
    go_wp2_with fail
    refine (of_own (xs := stepL 1 xs) w1 hv2 (by omega)).mono ?_
    rintro e w3 ⟨rfl, hb3⟩
    have hB3 := bcall hBq hb3 hBq.size
    have hs3 := hb3.size
    obtain ⟨r0, r1, r2, r3, r4, s0, s1, s2, s3, s4⟩ := hrq.below hb3 (World.block_lt_of_cell? _ _ hrq.l0)
    clear hb3 hrq hBq
    simp only [ofV, stepV] at hfin ⊢
    go_wp2
    exact bodyPost_ret (v := ofV (stepL 1 xs)) (by simp [results, Try.results18, go_sem, r0, r1, r2, r3, r4]; rfl) rfl ⟨by rw [← hfin.out]; rfl, by repeat' (first | (with_reducible refine below_drewN ?_ _) | go_grown)⟩
  · have hf : Hid (stepS 1 d c0 c1 c2 c3 = stepV false 0 0 0 0 0) := by show _ = _; simp [stepS, enterB, leftV, leaveB, nextV, nextB, hr, stepV, gate]
    obtain ⟨r0, r1, r2, r3, r4, s0, s1, s2, s3, s4⟩ := hr1
    go_wp2
    exact bodyPost_ret (v := (Value.tuple #[.agg #[.int .i64 0, .int .i64 0, .int .i64 0, .int .i64 0, .int .i64 0], .bool false])) (by simp [results, Try.results18, go_sem, r0, r1, r2, r3, r4]) rfl ⟨by first | (rw [hf.out]; done) | (rw [hf.out]; rfl), by repeat' (first | (with_reducible refine below_drewN ?_ _) | go_grown)⟩

set_option maxHeartbeats 4000000 in
theorem stepNext (d c0 c1 c2 c3 : Int) (w : World) :
    Calls Try.prog 18 #[.agg #[.int .i64 d, .int .i64 c0, .int .i64 c1, .int .i64 c2, .int .i64 c3], .int .i64 2] w (Ret (stepS 2 d c0 c1 c2 c3) w) := by
  go_enter Try.func18, Try.ntmps18
  go_wp2_with fail
  refine (list_any _ _ _ _ _ _).mono ?_
  rintro e w1 hl1
  have hb1 : Below _ _ w1 := hl1.below
  have hz := hb1.size
  have hB := bcall (B := w.heap.size) (a := w) (by go_grown) hb1 (by go_size)
  have hr1 := (Own5.new _ (.int .i64 0) (.int .i64 0) (.int .i64 0) (.int .i64 0) (.int .i64 0) 24).below hb1 (by go_size)
  simp only [World.size_alloc] at *
  clear hb1
  rcases hl1 with ⟨hr, v, rfl, hv, hb1⟩ | ⟨hr, rfl, hb1⟩
  · clear hb1
    have hy := coords_len hr
    have hx := Lib.hid hy.1
    have hm4 : (coords d c0 c1 c2 c3).length ≤ 4 := by have := hx.out; omega
    have hm1 : 1 ≤ (coords d c0 c1 c2 c3).length := by have := hx.out; omega
    have hfin := Lib.hid (step_lists 2 hr)
    have hlast : 0 ≤ lastL (coords d c0 c1 c2 c3) ∧ lastL (coords d c0 c1 c2 c3) ≤ 1048576 := by
      have hp := right_of hr
      have hd : d = 1 ∨ d = 2 ∨ d = 3 ∨ d = 4 := by omega
      clear hfin hv
      rcases hd with rfl | rfl | rfl | rfl <;> simp [coords, lastL, nth, rightP, greatestS] at hp ⊢ <;> omega
    obtain ⟨hlast1, hlast2⟩ := hlast
    clear hy hx
    generalize coords d c0 c1 c2 c3 = xs at *
    simp only [World.size_alloc] at hv
    have hl2 := stepL_len (how := 2) (xs := xs)
    obtain ⟨g, cap, rfl, hg, hgB, hgc, hgm, hcx, hfx⟩ := hv.cons_shape hm1
    unfold maxLen at hgm
    obtain ⟨k, hk⟩ : ∃ k, k + 1 = xs.length := ⟨xs.length - 1, by omega⟩
    have e1 : lastL xs = nth xs k := by unfold lastL; congr 1; omega
    have gx : w1.cell? ⟨g, k, none⟩ = some (.int .i64 (lastL xs)) := by rw [e1]; exact hcx k (by omega)
    have gf := hfx k
    have hv2 : OwnI (w.heap.size + 1 + 1 + 1) (w1.setCell ⟨g, k, none⟩ (.int .i64 (lastL xs + 1))) (.slice (some ⟨g, 0, none⟩) xs.length cap) (stepL 2 xs) := by
      have := hv.set rfl k (lastL xs + 1)
      unfold stepL; rw [if_neg (by omega), if_neg (by omega), show xs.length - 1 = k by omega]; exact this
    have hBq : Below w.heap.size w (w1.setCell ⟨g, k, none⟩ (.int .i64 (lastL xs + 1))) := hB.setCell (by show w.heap.size ≤ g; omega) _
    have hrq := hr1.setFar k (.int .i64 (lastL xs + 1)) (show w.heap.size + 1 ≠ g by omega)
    have Hk := Lib.hid hk
    have hk1 : ((xs.length : Int) - 1) = (k : Int) := by omega
    have hk2 : (k : Int) < (xs.length : Int) := by omega
    clear hr1 hB hv hk e1 hcx hfx
    go_wp2_with fail
    refine (of_own (xs := stepL 2 xs) _ hv2 (by omega)).mono ?_
    rintro e w3 ⟨rfl, hb3⟩
    have hB3 := bcall hBq hb3 hBq.size
    have hs3 := hb3.size
    obtain ⟨r0, r1, r2, r3, r4, s0, s1, s2, s3, s4⟩ := hrq.below hb3 (World.block_lt_of_cell? _ _ hrq.l0)
    clear hb3 hrq hBq
    simp only [ofV, stepV] at hfin ⊢
    go_wp2
    exact bodyPost_ret (v := ofV (stepL 2 xs)) (by simp [results, Try.results18, go_sem, r0, r1, r2, r3, r4]; rfl) rfl ⟨by rw [← hfin.out]; rfl, by repeat' (first | (with_reducible refine below_drewN ?_ _) | go_grown)⟩
  · have hf : Hid (stepS 2 d c0 c1 c2 c3 = stepV false 0 0 0 0 0) := by show _ = _; simp [stepS, enterB, leftV, leaveB, nextV, nextB, hr, stepV, gate]
    obtain ⟨r0, r1, r2, r3, r4, s0, s1, s2, s3, s4⟩ := hr1
    go_wp2
    exact bodyPost_ret (v := (Value.tuple #[.agg #[.int .i64 0, .int .i64 0, .int .i64 0, .int .i64 0, .int .i64 0], .bool false])) (by simp [results, Try.results18, go_sem, r0, r1, r2, r3, r4]) rfl ⟨by first | (rw [hf.out]; done) | (rw [hf.out]; rfl), by repeat' (first | (with_reducible refine below_drewN ?_ _) | go_grown)⟩

end Go.Proofs.Ytigiinbgnpohmaa
