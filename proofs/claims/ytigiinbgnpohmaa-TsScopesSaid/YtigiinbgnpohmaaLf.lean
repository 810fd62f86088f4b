import Derived.Test.YtigiinbgnpohmaaLe
namespace Go.Proofs.Ytigiinbgnpohmaa
open Go.RowKit
set_option linter.unusedVariables false
set_option linter.unusedSimpArgs false
attribute [local go_sem] eqArr4

theorem stepV_true {ok : Bool} {d c0 c1 c2 c3 p p0 p1 p2 p3 : Int} (h : stepV ok d c0 c1 c2 c3 = .tuple #[.agg #[.int .i64 p, .int .i64 p0, .int .i64 p1, .int .i64 p2, .int .i64 p3], .bool true]) : ok = true ∧ d = p ∧ c0 = p0 ∧ c1 = p1 ∧ c2 = p2 ∧ c3 = p3 := by
  cases ok
  · simp [stepV] at h
  · simp [stepV, gate] at h; exact ⟨rfl, h.1, h.2.1, h.2.2.1, h.2.2.2.1, h.2.2.2.2⟩
/-- in the loop: the third timestamp goes on, but it stays within the scope -/
structure ScopeInv (w0 : World) (g : Nat) (d c0 c1 c2 c3 e0 x0 x1 x2 x3 y y0 y1 y2 y3 : Int) (w : World) : Prop where
  below : Below w0.heap.size w0 w
  na : Own5 w w0.heap.size (.int .i64 d) (.int .i64 c0) (.int .i64 c1) (.int .i64 c2) (.int .i64 c3)
  nb : Own5 w (w0.heap.size + 1) (.int .i64 e0) (.int .i64 x0) (.int .i64 x1) (.int .i64 x2) (.int .i64 x3)
  nj : Own5 w g (.int .i64 y) (.int .i64 y0) (.int .i64 y1) (.int .i64 y2) (.int .i64 y3)


set_option maxRecDepth 100000 in
set_option maxHeartbeats 8000000 in
theorem tsScopes_calls (d c0 c1 c2 c3 e0 x0 x1 x2 x3 n : Int) (hn0 : 0 ≤ n) (hn1 : n ≤ 255) (w : World) : Calls Try.prog 6 #[.agg #[.int .i64 d, .int .i64 c0, .int .i64 c1, .int .i64 c2, .int .i64 c3], .agg #[.int .i64 e0, .int .i64 x0, .int .i64 x1, .int .i64 x2, .int .i64 x3], .int .u8 n] w (Ret (.bool true) w) := by
  obtain ⟨p, p0, p1, p2, p3, eo, hE⟩ : ∃ p p0 p1 p2 p3 eo, stepV (enterB d c0 c1 c2 c3) (d + 1) c0 c1 c2 c3 = .tuple #[.agg #[.int .i64 p, .int .i64 p0, .int .i64 p1, .int .i64 p2, .int .i64 p3], .bool eo] := ⟨_, _, _, _, _, _, rfl⟩
  have HE : Hid (∀ W, Calls Try.prog 17 #[.agg #[.int .i64 d, .int .i64 c0, .int .i64 c1, .int .i64 c2, .int .i64 c3]] W (Ret (.tuple #[.agg #[.int .i64 p, .int .i64 p0, .int .i64 p1, .int .i64 p2, .int .i64 p3], .bool eo]) W)) := fun W => by rw [← hE]; exact enter_any d c0 c1 c2 c3 W
  have hE := Lib.hid hE
  go_enter Try.func6, Try.ntmps6
  go_wp2_with fail
  refine (awake_any _).mono ?_
  rintro e w1 ⟨rfl, hb1⟩
  have hB1 : Below w.heap.size w w1 := bcall (by repeat' (first | (with_reducible refine below_drewN ?_ _) | go_grown)) hb1 (by first | go_size | (simp; omega))
  have hz1 := hb1.size
  have Npa : Own5 w1 w.heap.size (.int .i64 d) (.int .i64 c0) (.int .i64 c1) (.int .i64 c2) (.int .i64 c3) := Own5.below (by constructor <;> go_cell) hb1 (by first | go_size | (simp; omega))
  have Npb : Own5 w1 (w.heap.size + 1) (.int .i64 e0) (.int .i64 x0) (.int .i64 x1) (.int .i64 x2) (.int .i64 x3) := Own5.below (by constructor <;> go_cell) hb1 (by first | go_size | (simp; omega))
  try simp only [World.size_alloc] at hz1
  clear hb1
  obtain ⟨pa0, pa1, pa2, pa3, pa4, paf0, paf1, paf2, paf3, paf4⟩ := Npa
  obtain ⟨pb0, pb1, pb2, pb3, pb4, pbf0, pbf1, pbf2, pbf3, pbf4⟩ := Npb
  have pal1 : w.heap.size < w1.heap.size := World.block_lt_of_cell? _ _ pa0
  have pan1 : w.heap.size ≠ w1.heap.size := Nat.ne_of_lt pal1
  have pbl1 : (w.heap.size + 1) < w1.heap.size := World.block_lt_of_cell? _ _ pb0
  have pbn1 : (w.heap.size + 1) ≠ w1.heap.size := Nat.ne_of_lt pbl1
  go_wp2_with fail
  refine (HE.out _).mono ?_
  rintro e w2 ⟨rfl, hb2⟩
  have hB2 : Below w.heap.size w w2 := bcall (by repeat' (first | (with_reducible refine below_drewN ?_ _) | go_grown)) hb2 (by first | go_size | (simp; omega))
  have hz2 := hb2.size
  have Npa : Own5 w2 w.heap.size (.int .i64 d) (.int .i64 c0) (.int .i64 c1) (.int .i64 c2) (.int .i64 c3) := Own5.below (by constructor <;> go_cell) hb2 (by first | go_size | (simp; omega))
  have Npb : Own5 w2 (w.heap.size + 1) (.int .i64 e0) (.int .i64 x0) (.int .i64 x1) (.int .i64 x2) (.int .i64 x3) := Own5.below (by constructor <;> go_cell) hb2 (by first | go_size | (simp; omega))
  clear pa0 pa1 pa2 pa3 pa4 paf0 paf1 paf2 paf3 paf4 pb0 pb1 pb2 pb3 pb4 pbf0 pbf1 pbf2 pbf3 pbf4
  clear hB1
  try simp only [World.size_alloc] at hz2
  clear hb2
  obtain ⟨pa0, pa1, pa2, pa3, pa4, paf0, paf1, paf2, paf3, paf4⟩ := Npa
  obtain ⟨pb0, pb1, pb2, pb3, pb4, pbf0, pbf1, pbf2, pbf3, pbf4⟩ := Npb
  have pal2 : w.heap.size < w2.heap.size := World.block_lt_of_cell? _ _ pa0
  have pan2 : w.heap.size ≠ w2.heap.size := Nat.ne_of_lt pal2
  have pbl2 : (w.heap.size + 1) < w2.heap.size := World.block_lt_of_cell? _ _ pb0
  have pbn2 : (w.heap.size + 1) ≠ w2.heap.size := Nat.ne_of_lt pbl2
  go_upto_if 23 with (fail)
  obtain ⟨g, hg⟩ : ∃ g, g = w2.heap.size := ⟨_, rfl⟩
  refine gen_world (fun w' => Below w.heap.size w w' ∧ Own5 w' w.heap.size (.int .i64 d) (.int .i64 c0) (.int .i64 c1) (.int .i64 c2) (.int .i64 c3) ∧ Own5 w' (w.heap.size + 1) (.int .i64 e0) (.int .i64 x0) (.int .i64 x1) (.int .i64 x2) (.int .i64 x3) ∧ Own5 w' w2.heap.size (.int .i64 p) (.int .i64 p0) (.int .i64 p1) (.int .i64 p2) (.int .i64 p3)) ⟨by repeat' (first | (with_reducible refine below_drewN ?_ _) | go_grown), by constructor <;> go_cell, by constructor <;> go_cell, by constructor <;> go_cell⟩ ?_
  clear pa0 pa1 pa2 pa3 pa4 paf0 paf1 paf2 paf3 paf4 pb0 pb1 pb2 pb3 pb4 pbf0 pbf1 pbf2 pbf3 pbf4 hB2 pal1 pan1 pbl1 pbn1 pal2 pan2 pbl2 pbn2
  rintro v ⟨hB, Na, Nb, Nj⟩
  have hz : w.heap.size + 2 ≤ w2.heap.size := by omega
  rw [← hg] at Nj ⊢ hz
  clear hg hz1 hz2 HE
  go_cut [7] (fun v7 wx => ScopeCut w g d c0 c1 c2 c3 e0 x0 x1 x2 x3 v7 wx)
  case first =>
    cases eo
    · go_wp2_with fail
      go_meet
      case rel => exact ⟨p, p0, p1, p2, p3, rfl, hB, hz, Na, Nb, Nj⟩
    · have hF := stepV_true hE.out
      obtain ⟨hb, e0', e1', e2', e3', e4'⟩ := hF
      subst e0' e1' e2' e3' e4'
      simp only [enterB, Bool.and_eq_true, Bool.not_eq_true', beq_eq_false_iff_ne] at hb
      obtain ⟨hr, h4⟩ := hb
      have hp := right_of hr
      clear hE hr
      have hd : d = 1 ∨ d = 2 ∨ d = 3 := by have := hp.1; have := hp.2.1; omega
      have hgg : w.heap.size + 2 ≤ g := hz
      rcases hd with rfl | rfl | rfl
      · obtain rfl : c1 = 0 := by have := hp; simp [rightP, greatestS] at this; omega
        obtain rfl : c2 = 0 := by have := hp; simp [rightP, greatestS] at this; omega
        obtain rfl : c3 = 0 := by have := hp; simp [rightP, greatestS] at this; omega
        have Hp := Lib.hid hp
        clear hp h4
        have gn1 : w.heap.size ≠ g := by omega
        have gn2 : w.heap.size + 1 ≠ g := by omega
        have gn3 : g ≠ w.heap.size := by omega
        have gn4 : g ≠ w.heap.size + 1 := by omega
        have I0 : ScopeInv w g 1 c0 0 0 0 e0 x0 x1 x2 x3 2 c0 0 0 0 v := ⟨hB, Na, Nb, Nj⟩
        clear Na Nb Nj hB
        go_wp2
        go_loopw [9] (fun i wr => ∃ (k : Nat) (m : Int), i = .int .i64 k ∧ 0 ≤ m ∧ m ≤ 64 ∧ (k : Int) ≤ n % 70 ∧ ScopeInv w g 1 c0 0 0 0 e0 x0 x1 x2 x3 2 c0 m 0 0 wr) (fun i wr => 70 - (intOf i).toNat)
        case atStart => exact ⟨0, 0, rfl, by omega, by omega, by omega, I0⟩
        case round =>
          obtain ⟨k, m, rfl, hm0, hm1, hk, I⟩ := hrel
          clear I0
          have hk70 : (k : Int) < 70 := by omega
          by_cases hlt : (k : Int) < n % 70
          · by_cases hm : m = 64
            · have H64 : Hid (m ≤ 64) := by show m ≤ 64; omega
              have Hlt := Lib.hid hlt
              have HN : Hid (∀ W, Calls Try.prog 20 #[.agg #[.int .i64 2, .int .i64 c0, .int .i64 m, .int .i64 0, .int .i64 0]] W (Ret (.tuple #[.agg #[.int .i64 0, .int .i64 0, .int .i64 0, .int .i64 0, .int .i64 0], .bool false]) W)) := fun W => by have h := next_any 2 c0 m 0 0 W; rw [scope_next1 Hp.out hm0 hm1, if_pos hm] at h; exact h
              clear hm
              obtain ⟨pa0, pa1, pa2, pa3, pa4, paf0, paf1, paf2, paf3, paf4⟩ := I.na
              obtain ⟨pb0, pb1, pb2, pb3, pb4, pbf0, pbf1, pbf2, pbf3, pbf4⟩ := I.nb
              obtain ⟨pj0, pj1, pj2, pj3, pj4, pjf0, pjf1, pjf2, pjf3, pjf4⟩ := I.nj
              have pal0 : w.heap.size < wr.heap.size := World.block_lt_of_cell? _ _ pa0
              have pan0 : w.heap.size ≠ wr.heap.size := Nat.ne_of_lt pal0
              have pbl0 : (w.heap.size + 1) < wr.heap.size := World.block_lt_of_cell? _ _ pb0
              have pbn0 : (w.heap.size + 1) ≠ wr.heap.size := Nat.ne_of_lt pbl0
              have pjl0 : g < wr.heap.size := World.block_lt_of_cell? _ _ pj0
              have pjn0 : g ≠ wr.heap.size := Nat.ne_of_lt pjl0
              have hB0 := I.below
              clear I
              go_wp2_with fail
              refine (HN.out _).mono ?_
              rintro e w1 ⟨rfl, hb1⟩
              have hB1 : Below w.heap.size w w1 := bcall (by repeat' (first | (with_reducible refine below_drewN ?_ _) | go_grown)) hb1 (by first | go_size | (simp; omega))
              have hz1 := hb1.size
              have Npa : Own5 w1 w.heap.size (.int .i64 1) (.int .i64 c0) (.int .i64 0) (.int .i64 0) (.int .i64 0) := Own5.below (by constructor <;> go_cell) hb1 (by first | go_size | (simp; omega))
              have Npb : Own5 w1 (w.heap.size + 1) (.int .i64 e0) (.int .i64 x0) (.int .i64 x1) (.int .i64 x2) (.int .i64 x3) := Own5.below (by constructor <;> go_cell) hb1 (by first | go_size | (simp; omega))
              have Npj : Own5 w1 g (.int .i64 2) (.int .i64 c0) (.int .i64 m) (.int .i64 0) (.int .i64 0) := Own5.below (by constructor <;> go_cell) hb1 (by first | go_size | (simp; omega))
              clear pa0 pa1 pa2 pa3 pa4 paf0 paf1 paf2 paf3 paf4 pb0 pb1 pb2 pb3 pb4 pbf0 pbf1 pbf2 pbf3 pbf4 pj0 pj1 pj2 pj3 pj4 pjf0 pjf1 pjf2 pjf3 pjf4
              try simp only [World.size_alloc] at hz1
              clear hb1
              obtain ⟨pa0, pa1, pa2, pa3, pa4, paf0, paf1, paf2, paf3, paf4⟩ := Npa
              obtain ⟨pb0, pb1, pb2, pb3, pb4, pbf0, pbf1, pbf2, pbf3, pbf4⟩ := Npb
              obtain ⟨pj0, pj1, pj2, pj3, pj4, pjf0, pjf1, pjf2, pjf3, pjf4⟩ := Npj
              have pal1 : w.heap.size < w1.heap.size := World.block_lt_of_cell? _ _ pa0
              have pan1 : w.heap.size ≠ w1.heap.size := Nat.ne_of_lt pal1
              have pbl1 : (w.heap.size + 1) < w1.heap.size := World.block_lt_of_cell? _ _ pb0
              have pbn1 : (w.heap.size + 1) ≠ w1.heap.size := Nat.ne_of_lt pbl1
              have pjl1 : g < w1.heap.size := World.block_lt_of_cell? _ _ pj0
              have pjn1 : g ≠ w1.heap.size := Nat.ne_of_lt pjl1
              clear HN
              go_wp2
              go_roundw
              case rel =>
                repeat apply Exists.intro
                refine ⟨?_, rfl⟩
                exact ⟨k + 1, m, by go_num, by omega, by have := H64.out; omega, by have := Hlt.out; omega, ⟨by repeat' (first | (with_reducible refine below_drewN ?_ _) | go_grown), by constructor <;> go_cell, by constructor <;> go_cell, by constructor <;> go_cell⟩⟩
              case measure => simp [intOf]; omega
            · have H64 : Hid (m + 1 ≤ 64) := by show m + 1 ≤ 64; omega
              have Hlt := Lib.hid hlt
              have HN : Hid (∀ W, Calls Try.prog 20 #[.agg #[.int .i64 2, .int .i64 c0, .int .i64 m, .int .i64 0, .int .i64 0]] W (Ret (.tuple #[.agg #[.int .i64 2, .int .i64 c0, .int .i64 (m + 1), .int .i64 0, .int .i64 0], .bool true]) W)) := fun W => by have h := next_any 2 c0 m 0 0 W; rw [scope_next1 Hp.out hm0 hm1, if_neg hm] at h; exact h
              clear hm
              
              obtain ⟨pa0, pa1, pa2, pa3, pa4, paf0, paf1, paf2, paf3, paf4⟩ := I.na
              obtain ⟨pb0, pb1, pb2, pb3, pb4, pbf0, pbf1, pbf2, pbf3, pbf4⟩ := I.nb
              obtain ⟨pj0, pj1, pj2, pj3, pj4, pjf0, pjf1, pjf2, pjf3, pjf4⟩ := I.nj
              have pal0 : w.heap.size < wr.heap.size := World.block_lt_of_cell? _ _ pa0
              have pan0 : w.heap.size ≠ wr.heap.size := Nat.ne_of_lt pal0
              have pbl0 : (w.heap.size + 1) < wr.heap.size := World.block_lt_of_cell? _ _ pb0
              have pbn0 : (w.heap.size + 1) ≠ wr.heap.size := Nat.ne_of_lt pbl0
              have pjl0 : g < wr.heap.size := World.block_lt_of_cell? _ _ pj0
              have pjn0 : g ≠ wr.heap.size := Nat.ne_of_lt pjl0
              have hB0 := I.below
              clear I
              go_wp2_with fail
              refine (HN.out _).mono ?_
              rintro e w1 ⟨rfl, hb1⟩
              have hB1 : Below w.heap.size w w1 := bcall (by repeat' (first | (with_reducible refine below_drewN ?_ _) | go_grown)) hb1 (by first | go_size | (simp; omega))
              have hz1 := hb1.size
              have Npa : Own5 w1 w.heap.size (.int .i64 1) (.int .i64 c0) (.int .i64 0) (.int .i64 0) (.int .i64 0) := Own5.below (by constructor <;> go_cell) hb1 (by first | go_size | (simp; omega))
              have Npb : Own5 w1 (w.heap.size + 1) (.int .i64 e0) (.int .i64 x0) (.int .i64 x1) (.int .i64 x2) (.int .i64 x3) := Own5.below (by constructor <;> go_cell) hb1 (by first | go_size | (simp; omega))
              have Npj : Own5 w1 g (.int .i64 2) (.int .i64 c0) (.int .i64 m) (.int .i64 0) (.int .i64 0) := Own5.below (by constructor <;> go_cell) hb1 (by first | go_size | (simp; omega))
              clear pa0 pa1 pa2 pa3 pa4 paf0 paf1 paf2 paf3 paf4 pb0 pb1 pb2 pb3 pb4 pbf0 pbf1 pbf2 pbf3 pbf4 pj0 pj1 pj2 pj3 pj4 pjf0 pjf1 pjf2 pjf3 pjf4
              try simp only [World.size_alloc] at hz1
              clear hb1
              obtain ⟨pa0, pa1, pa2, pa3, pa4, paf0, paf1, paf2, paf3, paf4⟩ := Npa
              obtain ⟨pb0, pb1, pb2, pb3, pb4, pbf0, pbf1, pbf2, pbf3, pbf4⟩ := Npb
              obtain ⟨pj0, pj1, pj2, pj3, pj4, pjf0, pjf1, pjf2, pjf3, pjf4⟩ := Npj
              have pal1 : w.heap.size < w1.heap.size := World.block_lt_of_cell? _ _ pa0
              have pan1 : w.heap.size ≠ w1.heap.size := Nat.ne_of_lt pal1
              have pbl1 : (w.heap.size + 1) < w1.heap.size := World.block_lt_of_cell? _ _ pb0
              have pbn1 : (w.heap.size + 1) ≠ w1.heap.size := Nat.ne_of_lt pbl1
              have pjl1 : g < w1.heap.size := World.block_lt_of_cell? _ _ pj0
              have pjn1 : g ≠ w1.heap.size := Nat.ne_of_lt pjl1
              clear HN
              go_wp2
              go_roundw
              case rel =>
                repeat apply Exists.intro
                refine ⟨?_, rfl⟩
                exact ⟨k + 1, (m + 1), by go_num, by omega, by have := H64.out; omega, by have := Hlt.out; omega, ⟨by repeat' (first | (with_reducible refine below_drewN ?_ _) | go_grown), by constructor <;> go_cell, by constructor <;> go_cell, by constructor <;> go_cell⟩⟩
              case measure => simp [intOf]; omega
          · have HL : Hid (∀ W, Calls Try.prog 19 #[.agg #[.int .i64 2, .int .i64 c0, .int .i64 m, .int .i64 0, .int .i64 0]] W (Ret (.tuple #[.agg #[.int .i64 1, .int .i64 c0, .int .i64 0, .int .i64 0, .int .i64 0], .bool true]) W)) := fun W => by have h := leave_any 2 c0 m 0 0 W; rw [scope_leave1 Hp.out hm0 hm1] at h; exact h
            obtain ⟨pa0, pa1, pa2, pa3, pa4, paf0, paf1, paf2, paf3, paf4⟩ := I.na
            obtain ⟨pb0, pb1, pb2, pb3, pb4, pbf0, pbf1, pbf2, pbf3, pbf4⟩ := I.nb
            obtain ⟨pj0, pj1, pj2, pj3, pj4, pjf0, pjf1, pjf2, pjf3, pjf4⟩ := I.nj
            have pal0 : w.heap.size < wr.heap.size := World.block_lt_of_cell? _ _ pa0
            have pan0 : w.heap.size ≠ wr.heap.size := Nat.ne_of_lt pal0
            have pbl0 : (w.heap.size + 1) < wr.heap.size := World.block_lt_of_cell? _ _ pb0
            have pbn0 : (w.heap.size + 1) ≠ wr.heap.size := Nat.ne_of_lt pbl0
            have pjl0 : g < wr.heap.size := World.block_lt_of_cell? _ _ pj0
            have pjn0 : g ≠ wr.heap.size := Nat.ne_of_lt pjl0
            have hB0 := I.below
            clear I
            go_wp2_with fail
            refine (HL.out _).mono ?_
            rintro e w1 ⟨rfl, hb1⟩
            have hB1 : Below w.heap.size w w1 := bcall (by repeat' (first | (with_reducible refine below_drewN ?_ _) | go_grown)) hb1 (by first | go_size | (simp; omega))
            have hz1 := hb1.size
            have Npa : Own5 w1 w.heap.size (.int .i64 1) (.int .i64 c0) (.int .i64 0) (.int .i64 0) (.int .i64 0) := Own5.below (by constructor <;> go_cell) hb1 (by first | go_size | (simp; omega))
            have Npb : Own5 w1 (w.heap.size + 1) (.int .i64 e0) (.int .i64 x0) (.int .i64 x1) (.int .i64 x2) (.int .i64 x3) := Own5.below (by constructor <;> go_cell) hb1 (by first | go_size | (simp; omega))
            have Npj : Own5 w1 g (.int .i64 2) (.int .i64 c0) (.int .i64 m) (.int .i64 0) (.int .i64 0) := Own5.below (by constructor <;> go_cell) hb1 (by first | go_size | (simp; omega))
            clear pa0 pa1 pa2 pa3 pa4 paf0 paf1 paf2 paf3 paf4 pb0 pb1 pb2 pb3 pb4 pbf0 pbf1 pbf2 pbf3 pbf4 pj0 pj1 pj2 pj3 pj4 pjf0 pjf1 pjf2 pjf3 pjf4
            try simp only [World.size_alloc] at hz1
            clear hb1
            obtain ⟨pa0, pa1, pa2, pa3, pa4, paf0, paf1, paf2, paf3, paf4⟩ := Npa
            obtain ⟨pb0, pb1, pb2, pb3, pb4, pbf0, pbf1, pbf2, pbf3, pbf4⟩ := Npb
            obtain ⟨pj0, pj1, pj2, pj3, pj4, pjf0, pjf1, pjf2, pjf3, pjf4⟩ := Npj
            have pal1 : w.heap.size < w1.heap.size := World.block_lt_of_cell? _ _ pa0
            have pan1 : w.heap.size ≠ w1.heap.size := Nat.ne_of_lt pal1
            have pbl1 : (w.heap.size + 1) < w1.heap.size := World.block_lt_of_cell? _ _ pb0
            have pbn1 : (w.heap.size + 1) ≠ w1.heap.size := Nat.ne_of_lt pbl1
            have pjl1 : g < w1.heap.size := World.block_lt_of_cell? _ _ pj0
            have pjn1 : g ≠ w1.heap.size := Nat.ne_of_lt pjl1
            clear HL
            go_wp2_with fail
            go_meet
            case rel => exact ⟨2, c0, m, 0, 0, rfl, by repeat' (first | (with_reducible refine below_drewN ?_ _) | go_grown), hgg, by constructor <;> go_cell, by constructor <;> go_cell, by constructor <;> go_cell⟩
      · obtain rfl : c2 = 0 := by have := hp; simp [rightP, greatestS] at this; omega
        obtain rfl : c3 = 0 := by have := hp; simp [rightP, greatestS] at this; omega
        have Hp := Lib.hid hp
        clear hp h4
        have gn1 : w.heap.size ≠ g := by omega
        have gn2 : w.heap.size + 1 ≠ g := by omega
        have gn3 : g ≠ w.heap.size := by omega
        have gn4 : g ≠ w.heap.size + 1 := by omega
        have I0 : ScopeInv w g 2 c0 c1 0 0 e0 x0 x1 x2 x3 3 c0 c1 0 0 v := ⟨hB, Na, Nb, Nj⟩
        clear Na Nb Nj hB
        go_wp2
        go_loopw [9] (fun i wr => ∃ (k : Nat) (m : Int), i = .int .i64 k ∧ 0 ≤ m ∧ m ≤ 64 ∧ (k : Int) ≤ n % 70 ∧ ScopeInv w g 2 c0 c1 0 0 e0 x0 x1 x2 x3 3 c0 c1 m 0 wr) (fun i wr => 70 - (intOf i).toNat)
        case atStart => exact ⟨0, 0, rfl, by omega, by omega, by omega, I0⟩
        case round =>
          obtain ⟨k, m, rfl, hm0, hm1, hk, I⟩ := hrel
          clear I0
          have hk70 : (k : Int) < 70 := by omega
          by_cases hlt : (k : Int) < n % 70
          · by_cases hm : m = 64
            · have H64 : Hid (m ≤ 64) := by show m ≤ 64; omega
              have Hlt := Lib.hid hlt
              have HN : Hid (∀ W, Calls Try.prog 20 #[.agg #[.int .i64 3, .int .i64 c0, .int .i64 c1, .int .i64 m, .int .i64 0]] W (Ret (.tuple #[.agg #[.int .i64 0, .int .i64 0, .int .i64 0, .int .i64 0, .int .i64 0], .bool false]) W)) := fun W => by have h := next_any 3 c0 c1 m 0 W; rw [scope_next2 Hp.out hm0 hm1, if_pos hm] at h; exact h
              clear hm
              obtain ⟨pa0, pa1, pa2, pa3, pa4, paf0, paf1, paf2, paf3, paf4⟩ := I.na
              obtain ⟨pb0, pb1, pb2, pb3, pb4, pbf0, pbf1, pbf2, pbf3, pbf4⟩ := I.nb
              obtain ⟨pj0, pj1, pj2, pj3, pj4, pjf0, pjf1, pjf2, pjf3, pjf4⟩ := I.nj
              have pal0 : w.heap.size < wr.heap.size := World.block_lt_of_cell? _ _ pa0
              have pan0 : w.heap.size ≠ wr.heap.size := Nat.ne_of_lt pal0
              have pbl0 : (w.heap.size + 1) < wr.heap.size := World.block_lt_of_cell? _ _ pb0
              have pbn0 : (w.heap.size + 1) ≠ wr.heap.size := Nat.ne_of_lt pbl0
              have pjl0 : g < wr.heap.size := World.block_lt_of_cell? _ _ pj0
              have pjn0 : g ≠ wr.heap.size := Nat.ne_of_lt pjl0
              have hB0 := I.below
              clear I
              go_wp2_with fail
              refine (HN.out _).mono ?_
              rintro e w1 ⟨rfl, hb1⟩
              have hB1 : Below w.heap.size w w1 := bcall (by repeat' (first | (with_reducible refine below_drewN ?_ _) | go_grown)) hb1 (by first | go_size | (simp; omega))
              have hz1 := hb1.size
              have Npa : Own5 w1 w.heap.size (.int .i64 2) (.int .i64 c0) (.int .i64 c1) (.int .i64 0) (.int .i64 0) := Own5.below (by constructor <;> go_cell) hb1 (by first | go_size | (simp; omega))
              have Npb : Own5 w1 (w.heap.size + 1) (.int .i64 e0) (.int .i64 x0) (.int .i64 x1) (.int .i64 x2) (.int .i64 x3) := Own5.below (by constructor <;> go_cell) hb1 (by first | go_size | (simp; omega))
              have Npj : Own5 w1 g (.int .i64 3) (.int .i64 c0) (.int .i64 c1) (.int .i64 m) (.int .i64 0) := Own5.below (by constructor <;> go_cell) hb1 (by first | go_size | (simp; omega))
              clear pa0 pa1 pa2 pa3 pa4 paf0 paf1 paf2 paf3 paf4 pb0 pb1 pb2 pb3 pb4 pbf0 pbf1 pbf2 pbf3 pbf4 pj0 pj1 pj2 pj3 pj4 pjf0 pjf1 pjf2 pjf3 pjf4
              try simp only [World.size_alloc] at hz1
              clear hb1
              obtain ⟨pa0, pa1, pa2, pa3, pa4, paf0, paf1, paf2, paf3, paf4⟩ := Npa
              obtain ⟨pb0, pb1, pb2, pb3, pb4, pbf0, pbf1, pbf2, pbf3, pbf4⟩ := Npb
              obtain ⟨pj0, pj1, pj2, pj3, pj4, pjf0, pjf1, pjf2, pjf3, pjf4⟩ := Npj
              have pal1 : w.heap.size < w1.heap.size := World.block_lt_of_cell? _ _ pa0
              have pan1 : w.heap.size ≠ w1.heap.size := Nat.ne_of_lt pal1
              have pbl1 : (w.heap.size + 1) < w1.heap.size := World.block_lt_of_cell? _ _ pb0
              have pbn1 : (w.heap.size + 1) ≠ w1.heap.size := Nat.ne_of_lt pbl1
              have pjl1 : g < w1.heap.size := World.block_lt_of_cell? _ _ pj0
              have pjn1 : g ≠ w1.heap.size := Nat.ne_of_lt pjl1
              clear HN
              go_wp2
              go_roundw
              case rel =>
                repeat apply Exists.intro
                refine ⟨?_, rfl⟩
                exact ⟨k + 1, m, by go_num, by omega, by have := H64.out; omega, by have := Hlt.out; omega, ⟨by repeat' (first | (with_reducible refine below_drewN ?_ _) | go_grown), by constructor <;> go_cell, by constructor <;> go_cell, by constructor <;> go_cell⟩⟩
              case measure => simp [intOf]; omega
            · have H64 : Hid (m + 1 ≤ 64) := by show m + 1 ≤ 64; omega
              have Hlt := Lib.hid hlt
              have HN : Hid (∀ W, Calls Try.prog 20 #[.agg #[.int .i64 3, .int .i64 c0, .int .i64 c1, .int .i64 m, .int .i64 0]] W (Ret (.tuple #[.agg #[.int .i64 3, .int .i64 c0, .int .i64 c1, .int .i64 (m + 1), .int .i64 0], .bool true]) W)) := fun W => by have h := next_any 3 c0 c1 m 0 W; rw [scope_next2 Hp.out hm0 hm1, if_neg hm] at h; exact h
              clear hm
              
              obtain ⟨pa0, pa1, pa2, pa3, pa4, paf0, paf1, paf2, paf3, paf4⟩ := I.na
              obtain ⟨pb0, pb1, pb2, pb3, pb4, pbf0, pbf1, pbf2, pbf3, pbf4⟩ := I.nb
              obtain ⟨pj0, pj1, pj2, pj3, pj4, pjf0, pjf1, pjf2, pjf3, pjf4⟩ := I.nj
              have pal0 : w.heap.size < wr.heap.size := World.block_lt_of_cell? _ _ pa0
              have pan0 : w.heap.size ≠ wr.heap.size := Nat.ne_of_lt pal0
              have pbl0 : (w.heap.size + 1) < wr.heap.size := World.block_lt_of_cell? _ _ pb0
              have pbn0 : (w.heap.size + 1) ≠ wr.heap.size := Nat.ne_of_lt pbl0
              have pjl0 : g < wr.heap.size := World.block_lt_of_cell? _ _ pj0
              have pjn0 : g ≠ wr.heap.size := Nat.ne_of_lt pjl0
              have hB0 := I.below
              clear I
              go_wp2_with fail
              refine (HN.out _).mono ?_
              rintro e w1 ⟨rfl, hb1⟩
              have hB1 : Below w.heap.size w w1 := bcall (by repeat' (first | (with_reducible refine below_drewN ?_ _) | go_grown)) hb1 (by first | go_size | (simp; omega))
              have hz1 := hb1.size
              have Npa : Own5 w1 w.heap.size (.int .i64 2) (.int .i64 c0) (.int .i64 c1) (.int .i64 0) (.int .i64 0) := Own5.below (by constructor <;> go_cell) hb1 (by first | go_size | (simp; omega))
              have Npb : Own5 w1 (w.heap.size + 1) (.int .i64 e0) (.int .i64 x0) (.int .i64 x1) (.int .i64 x2) (.int .i64 x3) := Own5.below (by constructor <;> go_cell) hb1 (by first | go_size | (simp; omega))
              have Npj : Own5 w1 g (.int .i64 3) (.int .i64 c0) (.int .i64 c1) (.int .i64 m) (.int .i64 0) := Own5.below (by constructor <;> go_cell) hb1 (by first | go_size | (simp; omega))
              clear pa0 pa1 pa2 pa3 pa4 paf0 paf1 paf2 paf3 paf4 pb0 pb1 pb2 pb3 pb4 pbf0 pbf1 pbf2 pbf3 pbf4 pj0 pj1 pj2 pj3 pj4 pjf0 pjf1 pjf2 pjf3 pjf4
              try simp only [World.size_alloc] at hz1
              clear hb1
              obtain ⟨pa0, pa1, pa2, pa3, pa4, paf0, paf1, paf2, paf3, paf4⟩ := Npa
              obtain ⟨pb0, pb1, pb2, pb3, pb4, pbf0, pbf1, pbf2, pbf3, pbf4⟩ := Npb
              obtain ⟨pj0, pj1, pj2, pj3, pj4, pjf0, pjf1, pjf2, pjf3, pjf4⟩ := Npj
              have pal1 : w.heap.size < w1.heap.size := World.block_lt_of_cell? _ _ pa0
              have pan1 : w.heap.size ≠ w1.heap.size := Nat.ne_of_lt pal1
              have pbl1 : (w.heap.size + 1) < w1.heap.size := World.block_lt_of_cell? _ _ pb0
              have pbn1 : (w.heap.size + 1) ≠ w1.heap.size := Nat.ne_of_lt pbl1
              have pjl1 : g < w1.heap.size := World.block_lt_of_cell? _ _ pj0
              have pjn1 : g ≠ w1.heap.size := Nat.ne_of_lt pjl1
              clear HN
              go_wp2
              go_roundw
              case rel =>
                repeat apply Exists.intro
                refine ⟨?_, rfl⟩
                exact ⟨k + 1, (m + 1), by go_num, by omega, by have := H64.out; omega, by have := Hlt.out; omega, ⟨by repeat' (first | (with_reducible refine below_drewN ?_ _) | go_grown), by constructor <;> go_cell, by constructor <;> go_cell, by constructor <;> go_cell⟩⟩
              case measure => simp [intOf]; omega
          · have HL : Hid (∀ W, Calls Try.prog 19 #[.agg #[.int .i64 3, .int .i64 c0, .int .i64 c1, .int .i64 m, .int .i64 0]] W (Ret (.tuple #[.agg #[.int .i64 2, .int .i64 c0, .int .i64 c1, .int .i64 0, .int .i64 0], .bool true]) W)) := fun W => by have h := leave_any 3 c0 c1 m 0 W; rw [scope_leave2 Hp.out hm0 hm1] at h; exact h
            obtain ⟨pa0, pa1, pa2, pa3, pa4, paf0, paf1, paf2, paf3, paf4⟩ := I.na
            obtain ⟨pb0, pb1, pb2, pb3, pb4, pbf0, pbf1, pbf2, pbf3, pbf4⟩ := I.nb
            obtain ⟨pj0, pj1, pj2, pj3, pj4, pjf0, pjf1, pjf2, pjf3, pjf4⟩ := I.nj
            have pal0 : w.heap.size < wr.heap.size := World.block_lt_of_cell? _ _ pa0
            have pan0 : w.heap.size ≠ wr.heap.size := Nat.ne_of_lt pal0
            have pbl0 : (w.heap.size + 1) < wr.heap.size := World.block_lt_of_cell? _ _ pb0
            have pbn0 : (w.heap.size + 1) ≠ wr.heap.size := Nat.ne_of_lt pbl0
            have pjl0 : g < wr.heap.size := World.block_lt_of_cell? _ _ pj0
            have pjn0 : g ≠ wr.heap.size := Nat.ne_of_lt pjl0
            have hB0 := I.below
            clear I
            go_wp2_with fail
            refine (HL.out _).mono ?_
            rintro e w1 ⟨rfl, hb1⟩
            have hB1 : Below w.heap.size w w1 := bcall (by repeat' (first | (with_reducible refine below_drewN ?_ _) | go_grown)) hb1 (by first | go_size | (simp; omega))
            have hz1 := hb1.size
            have Npa : Own5 w1 w.heap.size (.int .i64 2) (.int .i64 c0) (.int .i64 c1) (.int .i64 0) (.int .i64 0) := Own5.below (by constructor <;> go_cell) hb1 (by first | go_size | (simp; omega))
            have Npb : Own5 w1 (w.heap.size + 1) (.int .i64 e0) (.int .i64 x0) (.int .i64 x1) (.int .i64 x2) (.int .i64 x3) := Own5.below (by constructor <;> go_cell) hb1 (by first | go_size | (simp; omega))
            have Npj : Own5 w1 g (.int .i64 3) (.int .i64 c0) (.int .i64 c1) (.int .i64 m) (.int .i64 0) := Own5.below (by constructor <;> go_cell) hb1 (by first | go_size | (simp; omega))
            clear pa0 pa1 pa2 pa3 pa4 paf0 paf1 paf2 paf3 paf4 pb0 pb1 pb2 pb3 pb4 pbf0 pbf1 pbf2 pbf3 pbf4 pj0 pj1 pj2 pj3 pj4 pjf0 pjf1 pjf2 pjf3 pjf4
            try simp only [World.size_alloc] at hz1
            clear hb1
            obtain ⟨pa0, pa1, pa2, pa3, pa4, paf0, paf1, paf2, paf3, paf4⟩ := Npa
            obtain ⟨pb0, pb1, pb2, pb3, pb4, pbf0, pbf1, pbf2, pbf3, pbf4⟩ := Npb
            obtain ⟨pj0, pj1, pj2, pj3, pj4, pjf0, pjf1, pjf2, pjf3, pjf4⟩ := Npj
            have pal1 : w.heap.size < w1.heap.size := World.block_lt_of_cell? _ _ pa0
            have pan1 : w.heap.size ≠ w1.heap.size := Nat.ne_of_lt pal1
            have pbl1 : (w.heap.size + 1) < w1.heap.size := World.block_lt_of_cell? _ _ pb0
            have pbn1 : (w.heap.size + 1) ≠ w1.heap.size := Nat.ne_of_lt pbl1
            have pjl1 : g < w1.heap.size := World.block_lt_of_cell? _ _ pj0
            have pjn1 : g ≠ w1.heap.size := Nat.ne_of_lt pjl1
            clear HL
            go_wp2_with fail
            go_meet
            case rel => exact ⟨3, c0, c1, m, 0, rfl, by repeat' (first | (with_reducible refine below_drewN ?_ _) | go_grown), hgg, by constructor <;> go_cell, by constructor <;> go_cell, by constructor <;> go_cell⟩
      · obtain rfl : c3 = 0 := by have := hp; simp [rightP, greatestS] at this; omega
        have Hp := Lib.hid hp
        clear hp h4
        have gn1 : w.heap.size ≠ g := by omega
        have gn2 : w.heap.size + 1 ≠ g := by omega
        have gn3 : g ≠ w.heap.size := by omega
        have gn4 : g ≠ w.heap.size + 1 := by omega
        have I0 : ScopeInv w g 3 c0 c1 c2 0 e0 x0 x1 x2 x3 4 c0 c1 c2 0 v := ⟨hB, Na, Nb, Nj⟩
        clear Na Nb Nj hB
        go_wp2
        go_loopw [9] (fun i wr => ∃ (k : Nat) (m : Int), i = .int .i64 k ∧ 0 ≤ m ∧ m ≤ 64 ∧ (k : Int) ≤ n % 70 ∧ ScopeInv w g 3 c0 c1 c2 0 e0 x0 x1 x2 x3 4 c0 c1 c2 m wr) (fun i wr => 70 - (intOf i).toNat)
        case atStart => exact ⟨0, 0, rfl, by omega, by omega, by omega, I0⟩
        case round =>
          obtain ⟨k, m, rfl, hm0, hm1, hk, I⟩ := hrel
          clear I0
          have hk70 : (k : Int) < 70 := by omega
          by_cases hlt : (k : Int) < n % 70
          · by_cases hm : m = 64
            · have H64 : Hid (m ≤ 64) := by show m ≤ 64; omega
              have Hlt := Lib.hid hlt
              have HN : Hid (∀ W, Calls Try.prog 20 #[.agg #[.int .i64 4, .int .i64 c0, .int .i64 c1, .int .i64 c2, .int .i64 m]] W (Ret (.tuple #[.agg #[.int .i64 0, .int .i64 0, .int .i64 0, .int .i64 0, .int .i64 0], .bool false]) W)) := fun W => by have h := next_any 4 c0 c1 c2 m W; rw [scope_next3 Hp.out hm0 hm1, if_pos hm] at h; exact h
              clear hm
              obtain ⟨pa0, pa1, pa2, pa3, pa4, paf0, paf1, paf2, paf3, paf4⟩ := I.na
              obtain ⟨pb0, pb1, pb2, pb3, pb4, pbf0, pbf1, pbf2, pbf3, pbf4⟩ := I.nb
              obtain ⟨pj0, pj1, pj2, pj3, pj4, pjf0, pjf1, pjf2, pjf3, pjf4⟩ := I.nj
              have pal0 : w.heap.size < wr.heap.size := World.block_lt_of_cell? _ _ pa0
              have pan0 : w.heap.size ≠ wr.heap.size := Nat.ne_of_lt pal0
              have pbl0 : (w.heap.size + 1) < wr.heap.size := World.block_lt_of_cell? _ _ pb0
              have pbn0 : (w.heap.size + 1) ≠ wr.heap.size := Nat.ne_of_lt pbl0
              have pjl0 : g < wr.heap.size := World.block_lt_of_cell? _ _ pj0
              have pjn0 : g ≠ wr.heap.size := Nat.ne_of_lt pjl0
              have hB0 := I.below
              clear I
              go_wp2_with fail
              refine (HN.out _).mono ?_
              rintro e w1 ⟨rfl, hb1⟩
              have hB1 : Below w.heap.size w w1 := bcall (by repeat' (first | (with_reducible refine below_drewN ?_ _) | go_grown)) hb1 (by first | go_size | (simp; omega))
              have hz1 := hb1.size
              have Npa : Own5 w1 w.heap.size (.int .i64 3) (.int .i64 c0) (.int .i64 c1) (.int .i64 c2) (.int .i64 0) := Own5.below (by constructor <;> go_cell) hb1 (by first | go_size | (simp; omega))
              have Npb : Own5 w1 (w.heap.size + 1) (.int .i64 e0) (.int .i64 x0) (.int .i64 x1) (.int .i64 x2) (.int .i64 x3) := Own5.below (by constructor <;> go_cell) hb1 (by first | go_size | (simp; omega))
              have Npj : Own5 w1 g (.int .i64 4) (.int .i64 c0) (.int .i64 c1) (.int .i64 c2) (.int .i64 m) := Own5.below (by constructor <;> go_cell) hb1 (by first | go_size | (simp; omega))
              clear pa0 pa1 pa2 pa3 pa4 paf0 paf1 paf2 paf3 paf4 pb0 pb1 pb2 pb3 pb4 pbf0 pbf1 pbf2 pbf3 pbf4 pj0 pj1 pj2 pj3 pj4 pjf0 pjf1 pjf2 pjf3 pjf4
              try simp only [World.size_alloc] at hz1
              clear hb1
              obtain ⟨pa0, pa1, pa2, pa3, pa4, paf0, paf1, paf2, paf3, paf4⟩ := Npa
              obtain ⟨pb0, pb1, pb2, pb3, pb4, pbf0, pbf1, pbf2, pbf3, pbf4⟩ := Npb
              obtain ⟨pj0, pj1, pj2, pj3, pj4, pjf0, pjf1, pjf2, pjf3, pjf4⟩ := Npj
              have pal1 : w.heap.size < w1.heap.size := World.block_lt_of_cell? _ _ pa0
              have pan1 : w.heap.size ≠ w1.heap.size := Nat.ne_of_lt pal1
              have pbl1 : (w.heap.size + 1) < w1.heap.size := World.block_lt_of_cell? _ _ pb0
              have pbn1 : (w.heap.size + 1) ≠ w1.heap.size := Nat.ne_of_lt pbl1
              have pjl1 : g < w1.heap.size := World.block_lt_of_cell? _ _ pj0
              have pjn1 : g ≠ w1.heap.size := Nat.ne_of_lt pjl1
              clear HN
              go_wp2
              go_roundw
              case rel =>
                repeat apply Exists.intro
                refine ⟨?_, rfl⟩
                exact ⟨k + 1, m, by go_num, by omega, by have := H64.out; omega, by have := Hlt.out; omega, ⟨by repeat' (first | (with_reducible refine below_drewN ?_ _) | go_grown), by constructor <;> go_cell, by constructor <;> go_cell, by constructor <;> go_cell⟩⟩
              case measure => simp [intOf]; omega
            · have H64 : Hid (m + 1 ≤ 64) := by show m + 1 ≤ 64; omega
              have Hlt := Lib.hid hlt
              have HN : Hid (∀ W, Calls Try.prog 20 #[.agg #[.int .i64 4, .int .i64 c0, .int .i64 c1, .int .i64 c2, .int .i64 m]] W (Ret (.tuple #[.agg #[.int .i64 4, .int .i64 c0, .int .i64 c1, .int .i64 c2, .int .i64 (m + 1)], .bool true]) W)) := fun W => by have h := next_any 4 c0 c1 c2 m W; rw [scope_next3 Hp.out hm0 hm1, if_neg hm] at h; exact h
              clear hm
              
              obtain ⟨pa0, pa1, pa2, pa3, pa4, paf0, paf1, paf2, paf3, paf4⟩ := I.na
              obtain ⟨pb0, pb1, pb2, pb3, pb4, pbf0, pbf1, pbf2, pbf3, pbf4⟩ := I.nb
              obtain ⟨pj0, pj1, pj2, pj3, pj4, pjf0, pjf1, pjf2, pjf3, pjf4⟩ := I.nj
              have pal0 : w.heap.size < wr.heap.size := World.block_lt_of_cell? _ _ pa0
              have pan0 : w.heap.size ≠ wr.heap.size := Nat.ne_of_lt pal0
              have pbl0 : (w.heap.size + 1) < wr.heap.size := World.block_lt_of_cell? _ _ pb0
              have pbn0 : (w.heap.size + 1) ≠ wr.heap.size := Nat.ne_of_lt pbl0
              have pjl0 : g < wr.heap.size := World.block_lt_of_cell? _ _ pj0
              have pjn0 : g ≠ wr.heap.size := Nat.ne_of_lt pjl0
              have hB0 := I.below
              clear I
              go_wp2_with fail
              refine (HN.out _).mono ?_
              rintro e w1 ⟨rfl, hb1⟩
              have hB1 : Below w.heap.size w w1 := bcall (by repeat' (first | (with_reducible refine below_drewN ?_ _) | go_grown)) hb1 (by first | go_size | (simp; omega))
              have hz1 := hb1.size
              have Npa : Own5 w1 w.heap.size (.int .i64 3) (.int .i64 c0) (.int .i64 c1) (.int .i64 c2) (.int .i64 0) := Own5.below (by constructor <;> go_cell) hb1 (by first | go_size | (simp; omega))
              have Npb : Own5 w1 (w.heap.size + 1) (.int .i64 e0) (.int .i64 x0) (.int .i64 x1) (.int .i64 x2) (.int .i64 x3) := Own5.below (by constructor <;> go_cell) hb1 (by first | go_size | (simp; omega))
              have Npj : Own5 w1 g (.int .i64 4) (.int .i64 c0) (.int .i64 c1) (.int .i64 c2) (.int .i64 m) := Own5.below (by constructor <;> go_cell) hb1 (by first | go_size | (simp; omega))
              clear pa0 pa1 pa2 pa3 pa4 paf0 paf1 paf2 paf3 paf4 pb0 pb1 pb2 pb3 pb4 pbf0 pbf1 pbf2 pbf3 pbf4 pj0 pj1 pj2 pj3 pj4 pjf0 pjf1 pjf2 pjf3 pjf4
              try simp only [World.size_alloc] at hz1
              clear hb1
              obtain ⟨pa0, pa1, pa2, pa3, pa4, paf0, paf1, paf2, paf3, paf4⟩ := Npa
              obtain ⟨pb0, pb1, pb2, pb3, pb4, pbf0, pbf1, pbf2, pbf3, pbf4⟩ := Npb
              obtain ⟨pj0, pj1, pj2, pj3, pj4, pjf0, pjf1, pjf2, pjf3, pjf4⟩ := Npj
              have pal1 : w.heap.size < w1.heap.size := World.block_lt_of_cell? _ _ pa0
              have pan1 : w.heap.size ≠ w1.heap.size := Nat.ne_of_lt pal1
              have pbl1 : (w.heap.size + 1) < w1.heap.size := World.block_lt_of_cell? _ _ pb0
              have pbn1 : (w.heap.size + 1) ≠ w1.heap.size := Nat.ne_of_lt pbl1
              have pjl1 : g < w1.heap.size := World.block_lt_of_cell? _ _ pj0
              have pjn1 : g ≠ w1.heap.size := Nat.ne_of_lt pjl1
              clear HN
              go_wp2
              go_roundw
              case rel =>
                repeat apply Exists.intro
                refine ⟨?_, rfl⟩
                exact ⟨k + 1, (m + 1), by go_num, by omega, by have := H64.out; omega, by have := Hlt.out; omega, ⟨by repeat' (first | (with_reducible refine below_drewN ?_ _) | go_grown), by constructor <;> go_cell, by constructor <;> go_cell, by constructor <;> go_cell⟩⟩
              case measure => simp [intOf]; omega
          · have HL : Hid (∀ W, Calls Try.prog 19 #[.agg #[.int .i64 4, .int .i64 c0, .int .i64 c1, .int .i64 c2, .int .i64 m]] W (Ret (.tuple #[.agg #[.int .i64 3, .int .i64 c0, .int .i64 c1, .int .i64 c2, .int .i64 0], .bool true]) W)) := fun W => by have h := leave_any 4 c0 c1 c2 m W; rw [scope_leave3 Hp.out hm0 hm1] at h; exact h
            obtain ⟨pa0, pa1, pa2, pa3, pa4, paf0, paf1, paf2, paf3, paf4⟩ := I.na
            obtain ⟨pb0, pb1, pb2, pb3, pb4, pbf0, pbf1, pbf2, pbf3, pbf4⟩ := I.nb
            obtain ⟨pj0, pj1, pj2, pj3, pj4, pjf0, pjf1, pjf2, pjf3, pjf4⟩ := I.nj
            have pal0 : w.heap.size < wr.heap.size := World.block_lt_of_cell? _ _ pa0
            have pan0 : w.heap.size ≠ wr.heap.size := Nat.ne_of_lt pal0
            have pbl0 : (w.heap.size + 1) < wr.heap.size := World.block_lt_of_cell? _ _ pb0
            have pbn0 : (w.heap.size + 1) ≠ wr.heap.size := Nat.ne_of_lt pbl0
            have pjl0 : g < wr.heap.size := World.block_lt_of_cell? _ _ pj0
            have pjn0 : g ≠ wr.heap.size := Nat.ne_of_lt pjl0
            have hB0 := I.below
            clear I
            go_wp2_with fail
            refine (HL.out _).mono ?_
            rintro e w1 ⟨rfl, hb1⟩
            have hB1 : Below w.heap.size w w1 := bcall (by repeat' (first | (with_reducible refine below_drewN ?_ _) | go_grown)) hb1 (by first | go_size | (simp; omega))
            have hz1 := hb1.size
            have Npa : Own5 w1 w.heap.size (.int .i64 3) (.int .i64 c0) (.int .i64 c1) (.int .i64 c2) (.int .i64 0) := Own5.below (by constructor <;> go_cell) hb1 (by first | go_size | (simp; omega))
            have Npb : Own5 w1 (w.heap.size + 1) (.int .i64 e0) (.int .i64 x0) (.int .i64 x1) (.int .i64 x2) (.int .i64 x3) := Own5.below (by constructor <;> go_cell) hb1 (by first | go_size | (simp; omega))
            have Npj : Own5 w1 g (.int .i64 4) (.int .i64 c0) (.int .i64 c1) (.int .i64 c2) (.int .i64 m) := Own5.below (by constructor <;> go_cell) hb1 (by first | go_size | (simp; omega))
            clear pa0 pa1 pa2 pa3 pa4 paf0 paf1 paf2 paf3 paf4 pb0 pb1 pb2 pb3 pb4 pbf0 pbf1 pbf2 pbf3 pbf4 pj0 pj1 pj2 pj3 pj4 pjf0 pjf1 pjf2 pjf3 pjf4
            try simp only [World.size_alloc] at hz1
            clear hb1
            obtain ⟨pa0, pa1, pa2, pa3, pa4, paf0, paf1, paf2, paf3, paf4⟩ := Npa
            obtain ⟨pb0, pb1, pb2, pb3, pb4, pbf0, pbf1, pbf2, pbf3, pbf4⟩ := Npb
            obtain ⟨pj0, pj1, pj2, pj3, pj4, pjf0, pjf1, pjf2, pjf3, pjf4⟩ := Npj
            have pal1 : w.heap.size < w1.heap.size := World.block_lt_of_cell? _ _ pa0
            have pan1 : w.heap.size ≠ w1.heap.size := Nat.ne_of_lt pal1
            have pbl1 : (w.heap.size + 1) < w1.heap.size := World.block_lt_of_cell? _ _ pb0
            have pbn1 : (w.heap.size + 1) ≠ w1.heap.size := Nat.ne_of_lt pbl1
            have pjl1 : g < w1.heap.size := World.block_lt_of_cell? _ _ pj0
            have pjn1 : g ≠ w1.heap.size := Nat.ne_of_lt pjl1
            clear HL
            go_wp2_with fail
            go_meet
            case rel => exact ⟨4, c0, c1, c2, m, rfl, by repeat' (first | (with_reducible refine below_drewN ?_ _) | go_grown), hgg, by constructor <;> go_cell, by constructor <;> go_cell, by constructor <;> go_cell⟩
  case rest =>
    obtain ⟨y, y0, y1, y2, y3, rfl, hB3, hg, Na, Nb, Nj⟩ := hcut
    obtain ⟨pa0, pa1, pa2, pa3, pa4, paf0, paf1, paf2, paf3, paf4⟩ := Na
    obtain ⟨pb0, pb1, pb2, pb3, pb4, pbf0, pbf1, pbf2, pbf3, pbf4⟩ := Nb
    obtain ⟨pj0, pj1, pj2, pj3, pj4, pjf0, pjf1, pjf2, pjf3, pjf4⟩ := Nj
    have gn1 : w.heap.size ≠ g := by omega
    have gn2 : w.heap.size + 1 ≠ g := by omega
    have gn3 : g ≠ w.heap.size := by omega
    have gn4 : g ≠ w.heap.size + 1 := by omega
    have pal3 := World.block_lt_of_cell? _ _ pa0
    have pan3 := Nat.ne_of_lt pal3
    have pbl3 := World.block_lt_of_cell? _ _ pb0
    have pbn3 := Nat.ne_of_lt pbl3
    have pjl3 := World.block_lt_of_cell? _ _ pj0
    have pjn3 := Nat.ne_of_lt pjl3
    dsimp only at pal3 pan3 pbl3 pbn3 pjl3 pjn3
    cases hl : leB d c0 c1 c2 c3 e0 x0 x1 x2 x3
    · have HL := Lib.hid (le_is hl)
      clear hl
      go_wp2_with fail
      refine (HL.out _).mono ?_
      rintro e w4 ⟨rfl, hb4⟩
      have hB4 : Below w.heap.size w w4 := bcall (by repeat' (first | (with_reducible refine below_drewN ?_ _) | go_grown)) hb4 (by first | go_size | (simp; omega))
      have hz4 := hb4.size
      have Npa : Own5 w4 w.heap.size (.int .i64 d) (.int .i64 c0) (.int .i64 c1) (.int .i64 c2) (.int .i64 c3) := Own5.below (by constructor <;> go_cell) hb4 (by first | go_size | (simp; omega))
      have Npb : Own5 w4 (w.heap.size + 1) (.int .i64 e0) (.int .i64 x0) (.int .i64 x1) (.int .i64 x2) (.int .i64 x3) := Own5.below (by constructor <;> go_cell) hb4 (by first | go_size | (simp; omega))
      have Npj : Own5 w4 g (.int .i64 y) (.int .i64 y0) (.int .i64 y1) (.int .i64 y2) (.int .i64 y3) := Own5.below (by constructor <;> go_cell) hb4 (by first | go_size | (simp; omega))
      clear pa0 pa1 pa2 pa3 pa4 paf0 paf1 paf2 paf3 paf4 pb0 pb1 pb2 pb3 pb4 pbf0 pbf1 pbf2 pbf3 pbf4 pj0 pj1 pj2 pj3 pj4 pjf0 pjf1 pjf2 pjf3 pjf4
      clear hB3
      try simp only [World.size_alloc] at hz4
      clear hb4
      obtain ⟨pa0, pa1, pa2, pa3, pa4, paf0, paf1, paf2, paf3, paf4⟩ := Npa
      obtain ⟨pb0, pb1, pb2, pb3, pb4, pbf0, pbf1, pbf2, pbf3, pbf4⟩ := Npb
      obtain ⟨pj0, pj1, pj2, pj3, pj4, pjf0, pjf1, pjf2, pjf3, pjf4⟩ := Npj
      have pal4 : w.heap.size < w4.heap.size := World.block_lt_of_cell? _ _ pa0
      have pan4 : w.heap.size ≠ w4.heap.size := Nat.ne_of_lt pal4
      have pbl4 : (w.heap.size + 1) < w4.heap.size := World.block_lt_of_cell? _ _ pb0
      have pbn4 : (w.heap.size + 1) ≠ w4.heap.size := Nat.ne_of_lt pbl4
      have pjl4 : g < w4.heap.size := World.block_lt_of_cell? _ _ pj0
      have pjn4 : g ≠ w4.heap.size := Nat.ne_of_lt pjl4
      go_wp2
      go_returns
      exact ⟨ret_bool rfl, by repeat' (first | (with_reducible refine below_drewN ?_ _) | go_grown)⟩
    · have HL := Lib.hid (le_is hl)
      obtain rfl := (le_facts hl).1
      have hN := Lib.hid (next_two hl)
      have hI := Lib.hid (enter_two hl)
      have hO := Lib.hid (leave_two hl)
      clear hl
      go_wp2_with fail
      refine (HL.out _).mono ?_
      rintro e w4 ⟨rfl, hb4⟩
      have hB4 : Below w.heap.size w w4 := bcall (by repeat' (first | (with_reducible refine below_drewN ?_ _) | go_grown)) hb4 (by first | go_size | (simp; omega))
      have hz4 := hb4.size
      have Npa : Own5 w4 w.heap.size (.int .i64 d) (.int .i64 c0) (.int .i64 c1) (.int .i64 c2) (.int .i64 c3) := Own5.below (by constructor <;> go_cell) hb4 (by first | go_size | (simp; omega))
      have Npb : Own5 w4 (w.heap.size + 1) (.int .i64 d) (.int .i64 x0) (.int .i64 x1) (.int .i64 x2) (.int .i64 x3) := Own5.below (by constructor <;> go_cell) hb4 (by first | go_size | (simp; omega))
      have Npj : Own5 w4 g (.int .i64 y) (.int .i64 y0) (.int .i64 y1) (.int .i64 y2) (.int .i64 y3) := Own5.below (by constructor <;> go_cell) hb4 (by first | go_size | (simp; omega))
      clear pa0 pa1 pa2 pa3 pa4 paf0 paf1 paf2 paf3 paf4 pb0 pb1 pb2 pb3 pb4 pbf0 pbf1 pbf2 pbf3 pbf4 pj0 pj1 pj2 pj3 pj4 pjf0 pjf1 pjf2 pjf3 pjf4
      clear hB3
      try simp only [World.size_alloc] at hz4
      clear hb4
      obtain ⟨pa0, pa1, pa2, pa3, pa4, paf0, paf1, paf2, paf3, paf4⟩ := Npa
      obtain ⟨pb0, pb1, pb2, pb3, pb4, pbf0, pbf1, pbf2, pbf3, pbf4⟩ := Npb
      obtain ⟨pj0, pj1, pj2, pj3, pj4, pjf0, pjf1, pjf2, pjf3, pjf4⟩ := Npj
      have pal4 : w.heap.size < w4.heap.size := World.block_lt_of_cell? _ _ pa0
      have pan4 : w.heap.size ≠ w4.heap.size := Nat.ne_of_lt pal4
      have pbl4 : (w.heap.size + 1) < w4.heap.size := World.block_lt_of_cell? _ _ pb0
      have pbn4 : (w.heap.size + 1) ≠ w4.heap.size := Nat.ne_of_lt pbl4
      have pjl4 : g < w4.heap.size := World.block_lt_of_cell? _ _ pj0
      have pjn4 : g ≠ w4.heap.size := Nat.ne_of_lt pjl4
      rcases hN.out with ⟨p0, p1, p2, p3, en, hne, ⟨q, q0, q1, q2, q3, em, hle⟩ | em⟩ | ⟨en, em⟩
      · have HNa : Hid (∀ W, Calls Try.prog 20 #[.agg #[.int .i64 d, .int .i64 c0, .int .i64 c1, .int .i64 c2, .int .i64 c3]] W (Ret (.tuple #[.agg #[.int .i64 d, .int .i64 p0, .int .i64 p1, .int .i64 p2, .int .i64 p3], .bool true]) W)) := fun W => by have h := next_any d c0 c1 c2 c3 W; rw [en] at h; exact h
        have HNb : Hid (∀ W, Calls Try.prog 20 #[.agg #[.int .i64 d, .int .i64 x0, .int .i64 x1, .int .i64 x2, .int .i64 x3]] W (Ret (.tuple #[.agg #[.int .i64 q, .int .i64 q0, .int .i64 q1, .int .i64 q2, .int .i64 q3], .bool true]) W)) := fun W => by have h := next_any d x0 x1 x2 x3 W; rw [em] at h; exact h
        have HNl := Lib.hid (le_is hle)
        clear hle
        clear en em hN
        go_wp2_with fail
        refine (HNa.out _).mono ?_
        rintro e w5 ⟨rfl, hb5⟩
        have hB5 : Below w.heap.size w w5 := bcall (by repeat' (first | (with_reducible refine below_drewN ?_ _) | go_grown)) hb5 (by first | go_size | (simp; omega))
        have hz5 := hb5.size
        have Npa : Own5 w5 w.heap.size (.int .i64 d) (.int .i64 c0) (.int .i64 c1) (.int .i64 c2) (.int .i64 c3) := Own5.below (by constructor <;> go_cell) hb5 (by first | go_size | (simp; omega))
        have Npb : Own5 w5 (w.heap.size + 1) (.int .i64 d) (.int .i64 x0) (.int .i64 x1) (.int .i64 x2) (.int .i64 x3) := Own5.below (by constructor <;> go_cell) hb5 (by first | go_size | (simp; omega))
        have Npj : Own5 w5 g (.int .i64 y) (.int .i64 y0) (.int .i64 y1) (.int .i64 y2) (.int .i64 y3) := Own5.below (by constructor <;> go_cell) hb5 (by first | go_size | (simp; omega))
        clear pa0 pa1 pa2 pa3 pa4 paf0 paf1 paf2 paf3 paf4 pb0 pb1 pb2 pb3 pb4 pbf0 pbf1 pbf2 pbf3 pbf4 pj0 pj1 pj2 pj3 pj4 pjf0 pjf1 pjf2 pjf3 pjf4
        clear hB4
        try simp only [World.size_alloc] at hz5
        clear hb5
        obtain ⟨pa0, pa1, pa2, pa3, pa4, paf0, paf1, paf2, paf3, paf4⟩ := Npa
        obtain ⟨pb0, pb1, pb2, pb3, pb4, pbf0, pbf1, pbf2, pbf3, pbf4⟩ := Npb
        obtain ⟨pj0, pj1, pj2, pj3, pj4, pjf0, pjf1, pjf2, pjf3, pjf4⟩ := Npj
        have pal5 : w.heap.size < w5.heap.size := World.block_lt_of_cell? _ _ pa0
        have pan5 : w.heap.size ≠ w5.heap.size := Nat.ne_of_lt pal5
        have pbl5 : (w.heap.size + 1) < w5.heap.size := World.block_lt_of_cell? _ _ pb0
        have pbn5 : (w.heap.size + 1) ≠ w5.heap.size := Nat.ne_of_lt pbl5
        have pjl5 : g < w5.heap.size := World.block_lt_of_cell? _ _ pj0
        have pjn5 : g ≠ w5.heap.size := Nat.ne_of_lt pjl5
        go_wp2_with fail
        refine (HNb.out _).mono ?_
        rintro e w6 ⟨rfl, hb6⟩
        have hB6 : Below w.heap.size w w6 := bcall (by repeat' (first | (with_reducible refine below_drewN ?_ _) | go_grown)) hb6 (by first | go_size | (simp; omega))
        have hz6 := hb6.size
        have Npa : Own5 w6 w.heap.size (.int .i64 d) (.int .i64 c0) (.int .i64 c1) (.int .i64 c2) (.int .i64 c3) := Own5.below (by constructor <;> go_cell) hb6 (by first | go_size | (simp; omega))
        have Npb : Own5 w6 (w.heap.size + 1) (.int .i64 d) (.int .i64 x0) (.int .i64 x1) (.int .i64 x2) (.int .i64 x3) := Own5.below (by constructor <;> go_cell) hb6 (by first | go_size | (simp; omega))
        have Npj : Own5 w6 g (.int .i64 d) (.int .i64 p0) (.int .i64 p1) (.int .i64 p2) (.int .i64 p3) := Own5.below (by constructor <;> go_cell) hb6 (by first | go_size | (simp; omega))
        clear pa0 pa1 pa2 pa3 pa4 paf0 paf1 paf2 paf3 paf4 pb0 pb1 pb2 pb3 pb4 pbf0 pbf1 pbf2 pbf3 pbf4 pj0 pj1 pj2 pj3 pj4 pjf0 pjf1 pjf2 pjf3 pjf4
        clear hB5
        try simp only [World.size_alloc] at hz6
        clear hb6
        obtain ⟨pa0, pa1, pa2, pa3, pa4, paf0, paf1, paf2, paf3, paf4⟩ := Npa
        obtain ⟨pb0, pb1, pb2, pb3, pb4, pbf0, pbf1, pbf2, pbf3, pbf4⟩ := Npb
        obtain ⟨pj0, pj1, pj2, pj3, pj4, pjf0, pjf1, pjf2, pjf3, pjf4⟩ := Npj
        have pal6 : w.heap.size < w6.heap.size := World.block_lt_of_cell? _ _ pa0
        have pan6 : w.heap.size ≠ w6.heap.size := Nat.ne_of_lt pal6
        have pbl6 : (w.heap.size + 1) < w6.heap.size := World.block_lt_of_cell? _ _ pb0
        have pbn6 : (w.heap.size + 1) ≠ w6.heap.size := Nat.ne_of_lt pbl6
        have pjl6 : g < w6.heap.size := World.block_lt_of_cell? _ _ pj0
        have pjn6 : g ≠ w6.heap.size := Nat.ne_of_lt pjl6
        go_wp2_with fail
        refine (HNl.out _).mono ?_
        rintro e w7 ⟨rfl, hb7⟩
        have hB7 : Below w.heap.size w w7 := bcall (by repeat' (first | (with_reducible refine below_drewN ?_ _) | go_grown)) hb7 (by first | go_size | (simp; omega))
        have hz7 := hb7.size
        have Npa : Own5 w7 w.heap.size (.int .i64 d) (.int .i64 c0) (.int .i64 c1) (.int .i64 c2) (.int .i64 c3) := Own5.below (by constructor <;> go_cell) hb7 (by first | go_size | (simp; omega))
        have Npb : Own5 w7 (w.heap.size + 1) (.int .i64 d) (.int .i64 x0) (.int .i64 x1) (.int .i64 x2) (.int .i64 x3) := Own5.below (by constructor <;> go_cell) hb7 (by first | go_size | (simp; omega))
        have Npj : Own5 w7 g (.int .i64 d) (.int .i64 p0) (.int .i64 p1) (.int .i64 p2) (.int .i64 p3) := Own5.below (by constructor <;> go_cell) hb7 (by first | go_size | (simp; omega))
        have Npk : Own5 w7 w6.heap.size (.int .i64 q) (.int .i64 q0) (.int .i64 q1) (.int .i64 q2) (.int .i64 q3) := Own5.below (by constructor <;> go_cell) hb7 (by first | go_size | (simp; omega))
        clear pa0 pa1 pa2 pa3 pa4 paf0 paf1 paf2 paf3 paf4 pb0 pb1 pb2 pb3 pb4 pbf0 pbf1 pbf2 pbf3 pbf4 pj0 pj1 pj2 pj3 pj4 pjf0 pjf1 pjf2 pjf3 pjf4
        clear hB6
        try simp only [World.size_alloc] at hz7
        clear hb7
        obtain ⟨pa0, pa1, pa2, pa3, pa4, paf0, paf1, paf2, paf3, paf4⟩ := Npa
        obtain ⟨pb0, pb1, pb2, pb3, pb4, pbf0, pbf1, pbf2, pbf3, pbf4⟩ := Npb
        obtain ⟨pj0, pj1, pj2, pj3, pj4, pjf0, pjf1, pjf2, pjf3, pjf4⟩ := Npj
        obtain ⟨pk0, pk1, pk2, pk3, pk4, pkf0, pkf1, pkf2, pkf3, pkf4⟩ := Npk
        have pal7 : w.heap.size < w7.heap.size := World.block_lt_of_cell? _ _ pa0
        have pan7 : w.heap.size ≠ w7.heap.size := Nat.ne_of_lt pal7
        have pbl7 : (w.heap.size + 1) < w7.heap.size := World.block_lt_of_cell? _ _ pb0
        have pbn7 : (w.heap.size + 1) ≠ w7.heap.size := Nat.ne_of_lt pbl7
        have pjl7 : g < w7.heap.size := World.block_lt_of_cell? _ _ pj0
        have pjn7 : g ≠ w7.heap.size := Nat.ne_of_lt pjl7
        have pkl7 : w6.heap.size < w7.heap.size := World.block_lt_of_cell? _ _ pk0
        have pkn7 : w6.heap.size ≠ w7.heap.size := Nat.ne_of_lt pkl7
        clear HNa HNb HNl
        rcases hI.out with ⟨i, i0, i1, i2, i3, j, j0, j1, j2, j3, en, em, hle⟩ | ⟨en, em⟩
        · have HNa : Hid (∀ W, Calls Try.prog 17 #[.agg #[.int .i64 d, .int .i64 c0, .int .i64 c1, .int .i64 c2, .int .i64 c3]] W (Ret (.tuple #[.agg #[.int .i64 i, .int .i64 i0, .int .i64 i1, .int .i64 i2, .int .i64 i3], .bool true]) W)) := fun W => by have h := enter_any d c0 c1 c2 c3 W; rw [en] at h; exact h
          have HNb : Hid (∀ W, Calls Try.prog 17 #[.agg #[.int .i64 d, .int .i64 x0, .int .i64 x1, .int .i64 x2, .int .i64 x3]] W (Ret (.tuple #[.agg #[.int .i64 j, .int .i64 j0, .int .i64 j1, .int .i64 j2, .int .i64 j3], .bool true]) W)) := fun W => by have h := enter_any d x0 x1 x2 x3 W; rw [em] at h; exact h
          have HNl := Lib.hid (le_is hle)
          clear hle
          clear en em hI
          go_wp2_with fail
          refine (HNa.out _).mono ?_
          rintro e w8 ⟨rfl, hb8⟩
          have hB8 : Below w.heap.size w w8 := bcall (by repeat' (first | (with_reducible refine below_drewN ?_ _) | go_grown)) hb8 (by first | go_size | (simp; omega))
          have hz8 := hb8.size
          have Npa : Own5 w8 w.heap.size (.int .i64 d) (.int .i64 c0) (.int .i64 c1) (.int .i64 c2) (.int .i64 c3) := Own5.below (by constructor <;> go_cell) hb8 (by first | go_size | (simp; omega))
          have Npb : Own5 w8 (w.heap.size + 1) (.int .i64 d) (.int .i64 x0) (.int .i64 x1) (.int .i64 x2) (.int .i64 x3) := Own5.below (by constructor <;> go_cell) hb8 (by first | go_size | (simp; omega))
          have Npj : Own5 w8 g (.int .i64 d) (.int .i64 p0) (.int .i64 p1) (.int .i64 p2) (.int .i64 p3) := Own5.below (by constructor <;> go_cell) hb8 (by first | go_size | (simp; omega))
          have Npk : Own5 w8 w6.heap.size (.int .i64 q) (.int .i64 q0) (.int .i64 q1) (.int .i64 q2) (.int .i64 q3) := Own5.below (by constructor <;> go_cell) hb8 (by first | go_size | (simp; omega))
          clear pa0 pa1 pa2 pa3 pa4 paf0 paf1 paf2 paf3 paf4 pb0 pb1 pb2 pb3 pb4 pbf0 pbf1 pbf2 pbf3 pbf4 pj0 pj1 pj2 pj3 pj4 pjf0 pjf1 pjf2 pjf3 pjf4 pk0 pk1 pk2 pk3 pk4 pkf0 pkf1 pkf2 pkf3 pkf4
          clear hB7
          try simp only [World.size_alloc] at hz8
          clear hb8
          obtain ⟨pa0, pa1, pa2, pa3, pa4, paf0, paf1, paf2, paf3, paf4⟩ := Npa
          obtain ⟨pb0, pb1, pb2, pb3, pb4, pbf0, pbf1, pbf2, pbf3, pbf4⟩ := Npb
          obtain ⟨pj0, pj1, pj2, pj3, pj4, pjf0, pjf1, pjf2, pjf3, pjf4⟩ := Npj
          obtain ⟨pk0, pk1, pk2, pk3, pk4, pkf0, pkf1, pkf2, pkf3, pkf4⟩ := Npk
          have pal8 : w.heap.size < w8.heap.size := World.block_lt_of_cell? _ _ pa0
          have pan8 : w.heap.size ≠ w8.heap.size := Nat.ne_of_lt pal8
          have pbl8 : (w.heap.size + 1) < w8.heap.size := World.block_lt_of_cell? _ _ pb0
          have pbn8 : (w.heap.size + 1) ≠ w8.heap.size := Nat.ne_of_lt pbl8
          have pjl8 : g < w8.heap.size := World.block_lt_of_cell? _ _ pj0
          have pjn8 : g ≠ w8.heap.size := Nat.ne_of_lt pjl8
          have pkl8 : w6.heap.size < w8.heap.size := World.block_lt_of_cell? _ _ pk0
          have pkn8 : w6.heap.size ≠ w8.heap.size := Nat.ne_of_lt pkl8
          go_wp2_with fail
          refine (HNb.out _).mono ?_
          rintro e w9 ⟨rfl, hb9⟩
          have hB9 : Below w.heap.size w w9 := bcall (by repeat' (first | (with_reducible refine below_drewN ?_ _) | go_grown)) hb9 (by first | go_size | (simp; omega))
          have hz9 := hb9.size
          have Npa : Own5 w9 w.heap.size (.int .i64 d) (.int .i64 c0) (.int .i64 c1) (.int .i64 c2) (.int .i64 c3) := Own5.below (by constructor <;> go_cell) hb9 (by first | go_size | (simp; omega))
          have Npb : Own5 w9 (w.heap.size + 1) (.int .i64 d) (.int .i64 x0) (.int .i64 x1) (.int .i64 x2) (.int .i64 x3) := Own5.below (by constructor <;> go_cell) hb9 (by first | go_size | (simp; omega))
          have Npj : Own5 w9 g (.int .i64 i) (.int .i64 i0) (.int .i64 i1) (.int .i64 i2) (.int .i64 i3) := Own5.below (by constructor <;> go_cell) hb9 (by first | go_size | (simp; omega))
          have Npk : Own5 w9 w6.heap.size (.int .i64 q) (.int .i64 q0) (.int .i64 q1) (.int .i64 q2) (.int .i64 q3) := Own5.below (by constructor <;> go_cell) hb9 (by first | go_size | (simp; omega))
          clear pa0 pa1 pa2 pa3 pa4 paf0 paf1 paf2 paf3 paf4 pb0 pb1 pb2 pb3 pb4 pbf0 pbf1 pbf2 pbf3 pbf4 pj0 pj1 pj2 pj3 pj4 pjf0 pjf1 pjf2 pjf3 pjf4 pk0 pk1 pk2 pk3 pk4 pkf0 pkf1 pkf2 pkf3 pkf4
          clear hB8
          try simp only [World.size_alloc] at hz9
          clear hb9
          obtain ⟨pa0, pa1, pa2, pa3, pa4, paf0, paf1, paf2, paf3, paf4⟩ := Npa
          obtain ⟨pb0, pb1, pb2, pb3, pb4, pbf0, pbf1, pbf2, pbf3, pbf4⟩ := Npb
          obtain ⟨pj0, pj1, pj2, pj3, pj4, pjf0, pjf1, pjf2, pjf3, pjf4⟩ := Npj
          obtain ⟨pk0, pk1, pk2, pk3, pk4, pkf0, pkf1, pkf2, pkf3, pkf4⟩ := Npk
          have pal9 : w.heap.size < w9.heap.size := World.block_lt_of_cell? _ _ pa0
          have pan9 : w.heap.size ≠ w9.heap.size := Nat.ne_of_lt pal9
          have pbl9 : (w.heap.size + 1) < w9.heap.size := World.block_lt_of_cell? _ _ pb0
          have pbn9 : (w.heap.size + 1) ≠ w9.heap.size := Nat.ne_of_lt pbl9
          have pjl9 : g < w9.heap.size := World.block_lt_of_cell? _ _ pj0
          have pjn9 : g ≠ w9.heap.size := Nat.ne_of_lt pjl9
          have pkl9 : w6.heap.size < w9.heap.size := World.block_lt_of_cell? _ _ pk0
          have pkn9 : w6.heap.size ≠ w9.heap.size := Nat.ne_of_lt pkl9
          go_wp2_with fail
          refine (HNl.out _).mono ?_
          rintro e w10 ⟨rfl, hb10⟩
          have hB10 : Below w.heap.size w w10 := bcall (by repeat' (first | (with_reducible refine below_drewN ?_ _) | go_grown)) hb10 (by first | go_size | (simp; omega))
          have hz10 := hb10.size
          have Npa : Own5 w10 w.heap.size (.int .i64 d) (.int .i64 c0) (.int .i64 c1) (.int .i64 c2) (.int .i64 c3) := Own5.below (by constructor <;> go_cell) hb10 (by first | go_size | (simp; omega))
          have Npb : Own5 w10 (w.heap.size + 1) (.int .i64 d) (.int .i64 x0) (.int .i64 x1) (.int .i64 x2) (.int .i64 x3) := Own5.below (by constructor <;> go_cell) hb10 (by first | go_size | (simp; omega))
          have Npj : Own5 w10 g (.int .i64 i) (.int .i64 i0) (.int .i64 i1) (.int .i64 i2) (.int .i64 i3) := Own5.below (by constructor <;> go_cell) hb10 (by first | go_size | (simp; omega))
          have Npk : Own5 w10 w6.heap.size (.int .i64 j) (.int .i64 j0) (.int .i64 j1) (.int .i64 j2) (.int .i64 j3) := Own5.below (by constructor <;> go_cell) hb10 (by first | go_size | (simp; omega))
          clear pa0 pa1 pa2 pa3 pa4 paf0 paf1 paf2 paf3 paf4 pb0 pb1 pb2 pb3 pb4 pbf0 pbf1 pbf2 pbf3 pbf4 pj0 pj1 pj2 pj3 pj4 pjf0 pjf1 pjf2 pjf3 pjf4 pk0 pk1 pk2 pk3 pk4 pkf0 pkf1 pkf2 pkf3 pkf4
          clear hB9
          try simp only [World.size_alloc] at hz10
          clear hb10
          obtain ⟨pa0, pa1, pa2, pa3, pa4, paf0, paf1, paf2, paf3, paf4⟩ := Npa
          obtain ⟨pb0, pb1, pb2, pb3, pb4, pbf0, pbf1, pbf2, pbf3, pbf4⟩ := Npb
          obtain ⟨pj0, pj1, pj2, pj3, pj4, pjf0, pjf1, pjf2, pjf3, pjf4⟩ := Npj
          obtain ⟨pk0, pk1, pk2, pk3, pk4, pkf0, pkf1, pkf2, pkf3, pkf4⟩ := Npk
          have pal10 : w.heap.size < w10.heap.size := World.block_lt_of_cell? _ _ pa0
          have pan10 : w.heap.size ≠ w10.heap.size := Nat.ne_of_lt pal10
          have pbl10 : (w.heap.size + 1) < w10.heap.size := World.block_lt_of_cell? _ _ pb0
          have pbn10 : (w.heap.size + 1) ≠ w10.heap.size := Nat.ne_of_lt pbl10
          have pjl10 : g < w10.heap.size := World.block_lt_of_cell? _ _ pj0
          have pjn10 : g ≠ w10.heap.size := Nat.ne_of_lt pjl10
          have pkl10 : w6.heap.size < w10.heap.size := World.block_lt_of_cell? _ _ pk0
          have pkn10 : w6.heap.size ≠ w10.heap.size := Nat.ne_of_lt pkl10
          clear HNa HNb HNl
          rcases hO.out with ⟨s, s0, s1, s2, s3, t, t0, t1, t2, t3, en, em, hle⟩ | ⟨en, em⟩
          · have HNa : Hid (∀ W, Calls Try.prog 19 #[.agg #[.int .i64 d, .int .i64 c0, .int .i64 c1, .int .i64 c2, .int .i64 c3]] W (Ret (.tuple #[.agg #[.int .i64 s, .int .i64 s0, .int .i64 s1, .int .i64 s2, .int .i64 s3], .bool true]) W)) := fun W => by have h := leave_any d c0 c1 c2 c3 W; rw [en] at h; exact h
            have HNb : Hid (∀ W, Calls Try.prog 19 #[.agg #[.int .i64 d, .int .i64 x0, .int .i64 x1, .int .i64 x2, .int .i64 x3]] W (Ret (.tuple #[.agg #[.int .i64 t, .int .i64 t0, .int .i64 t1, .int .i64 t2, .int .i64 t3], .bool true]) W)) := fun W => by have h := leave_any d x0 x1 x2 x3 W; rw [em] at h; exact h
            have HNl := Lib.hid (le_is hle)
            clear hle
            clear en em hO
            go_wp2_with fail
            refine (HNa.out _).mono ?_
            rintro e w11 ⟨rfl, hb11⟩
            have hB11 : Below w.heap.size w w11 := bcall (by repeat' (first | (with_reducible refine below_drewN ?_ _) | go_grown)) hb11 (by first | go_size | (simp; omega))
            have hz11 := hb11.size
            have Npa : Own5 w11 w.heap.size (.int .i64 d) (.int .i64 c0) (.int .i64 c1) (.int .i64 c2) (.int .i64 c3) := Own5.below (by constructor <;> go_cell) hb11 (by first | go_size | (simp; omega))
            have Npb : Own5 w11 (w.heap.size + 1) (.int .i64 d) (.int .i64 x0) (.int .i64 x1) (.int .i64 x2) (.int .i64 x3) := Own5.below (by constructor <;> go_cell) hb11 (by first | go_size | (simp; omega))
            have Npj : Own5 w11 g (.int .i64 i) (.int .i64 i0) (.int .i64 i1) (.int .i64 i2) (.int .i64 i3) := Own5.below (by constructor <;> go_cell) hb11 (by first | go_size | (simp; omega))
            have Npk : Own5 w11 w6.heap.size (.int .i64 j) (.int .i64 j0) (.int .i64 j1) (.int .i64 j2) (.int .i64 j3) := Own5.below (by constructor <;> go_cell) hb11 (by first | go_size | (simp; omega))
            clear pa0 pa1 pa2 pa3 pa4 paf0 paf1 paf2 paf3 paf4 pb0 pb1 pb2 pb3 pb4 pbf0 pbf1 pbf2 pbf3 pbf4 pj0 pj1 pj2 pj3 pj4 pjf0 pjf1 pjf2 pjf3 pjf4 pk0 pk1 pk2 pk3 pk4 pkf0 pkf1 pkf2 pkf3 pkf4
            clear hB10
            try simp only [World.size_alloc] at hz11
            clear hb11
            obtain ⟨pa0, pa1, pa2, pa3, pa4, paf0, paf1, paf2, paf3, paf4⟩ := Npa
            obtain ⟨pb0, pb1, pb2, pb3, pb4, pbf0, pbf1, pbf2, pbf3, pbf4⟩ := Npb
            obtain ⟨pj0, pj1, pj2, pj3, pj4, pjf0, pjf1, pjf2, pjf3, pjf4⟩ := Npj
            obtain ⟨pk0, pk1, pk2, pk3, pk4, pkf0, pkf1, pkf2, pkf3, pkf4⟩ := Npk
            have pal11 : w.heap.size < w11.heap.size := World.block_lt_of_cell? _ _ pa0
            have pan11 : w.heap.size ≠ w11.heap.size := Nat.ne_of_lt pal11
            have pbl11 : (w.heap.size + 1) < w11.heap.size := World.block_lt_of_cell? _ _ pb0
            have pbn11 : (w.heap.size + 1) ≠ w11.heap.size := Nat.ne_of_lt pbl11
            have pjl11 : g < w11.heap.size := World.block_lt_of_cell? _ _ pj0
            have pjn11 : g ≠ w11.heap.size := Nat.ne_of_lt pjl11
            have pkl11 : w6.heap.size < w11.heap.size := World.block_lt_of_cell? _ _ pk0
            have pkn11 : w6.heap.size ≠ w11.heap.size := Nat.ne_of_lt pkl11
            go_wp2_with fail
            refine (HNb.out _).mono ?_
            rintro e w12 ⟨rfl, hb12⟩
            have hB12 : Below w.heap.size w w12 := bcall (by repeat' (first | (with_reducible refine below_drewN ?_ _) | go_grown)) hb12 (by first | go_size | (simp; omega))
            have hz12 := hb12.size
            have Npa : Own5 w12 w.heap.size (.int .i64 d) (.int .i64 c0) (.int .i64 c1) (.int .i64 c2) (.int .i64 c3) := Own5.below (by constructor <;> go_cell) hb12 (by first | go_size | (simp; omega))
            have Npb : Own5 w12 (w.heap.size + 1) (.int .i64 d) (.int .i64 x0) (.int .i64 x1) (.int .i64 x2) (.int .i64 x3) := Own5.below (by constructor <;> go_cell) hb12 (by first | go_size | (simp; omega))
            have Npj : Own5 w12 g (.int .i64 s) (.int .i64 s0) (.int .i64 s1) (.int .i64 s2) (.int .i64 s3) := Own5.below (by constructor <;> go_cell) hb12 (by first | go_size | (simp; omega))
            have Npk : Own5 w12 w6.heap.size (.int .i64 j) (.int .i64 j0) (.int .i64 j1) (.int .i64 j2) (.int .i64 j3) := Own5.below (by constructor <;> go_cell) hb12 (by first | go_size | (simp; omega))
            clear pa0 pa1 pa2 pa3 pa4 paf0 paf1 paf2 paf3 paf4 pb0 pb1 pb2 pb3 pb4 pbf0 pbf1 pbf2 pbf3 pbf4 pj0 pj1 pj2 pj3 pj4 pjf0 pjf1 pjf2 pjf3 pjf4 pk0 pk1 pk2 pk3 pk4 pkf0 pkf1 pkf2 pkf3 pkf4
            clear hB11
            try simp only [World.size_alloc] at hz12
            clear hb12
            obtain ⟨pa0, pa1, pa2, pa3, pa4, paf0, paf1, paf2, paf3, paf4⟩ := Npa
            obtain ⟨pb0, pb1, pb2, pb3, pb4, pbf0, pbf1, pbf2, pbf3, pbf4⟩ := Npb
            obtain ⟨pj0, pj1, pj2, pj3, pj4, pjf0, pjf1, pjf2, pjf3, pjf4⟩ := Npj
            obtain ⟨pk0, pk1, pk2, pk3, pk4, pkf0, pkf1, pkf2, pkf3, pkf4⟩ := Npk
            have pal12 : w.heap.size < w12.heap.size := World.block_lt_of_cell? _ _ pa0
            have pan12 : w.heap.size ≠ w12.heap.size := Nat.ne_of_lt pal12
            have pbl12 : (w.heap.size + 1) < w12.heap.size := World.block_lt_of_cell? _ _ pb0
            have pbn12 : (w.heap.size + 1) ≠ w12.heap.size := Nat.ne_of_lt pbl12
            have pjl12 : g < w12.heap.size := World.block_lt_of_cell? _ _ pj0
            have pjn12 : g ≠ w12.heap.size := Nat.ne_of_lt pjl12
            have pkl12 : w6.heap.size < w12.heap.size := World.block_lt_of_cell? _ _ pk0
            have pkn12 : w6.heap.size ≠ w12.heap.size := Nat.ne_of_lt pkl12
            go_wp2_with fail
            refine (HNl.out _).mono ?_
            rintro e w13 ⟨rfl, hb13⟩
            have hB13 : Below w.heap.size w w13 := bcall (by repeat' (first | (with_reducible refine below_drewN ?_ _) | go_grown)) hb13 (by first | go_size | (simp; omega))
            have hz13 := hb13.size
            have Npa : Own5 w13 w.heap.size (.int .i64 d) (.int .i64 c0) (.int .i64 c1) (.int .i64 c2) (.int .i64 c3) := Own5.below (by constructor <;> go_cell) hb13 (by first | go_size | (simp; omega))
            have Npb : Own5 w13 (w.heap.size + 1) (.int .i64 d) (.int .i64 x0) (.int .i64 x1) (.int .i64 x2) (.int .i64 x3) := Own5.below (by constructor <;> go_cell) hb13 (by first | go_size | (simp; omega))
            have Npj : Own5 w13 g (.int .i64 s) (.int .i64 s0) (.int .i64 s1) (.int .i64 s2) (.int .i64 s3) := Own5.below (by constructor <;> go_cell) hb13 (by first | go_size | (simp; omega))
            have Npk : Own5 w13 w6.heap.size (.int .i64 t) (.int .i64 t0) (.int .i64 t1) (.int .i64 t2) (.int .i64 t3) := Own5.below (by constructor <;> go_cell) hb13 (by first | go_size | (simp; omega))
            clear pa0 pa1 pa2 pa3 pa4 paf0 paf1 paf2 paf3 paf4 pb0 pb1 pb2 pb3 pb4 pbf0 pbf1 pbf2 pbf3 pbf4 pj0 pj1 pj2 pj3 pj4 pjf0 pjf1 pjf2 pjf3 pjf4 pk0 pk1 pk2 pk3 pk4 pkf0 pkf1 pkf2 pkf3 pkf4
            clear hB12
            try simp only [World.size_alloc] at hz13
            clear hb13
            obtain ⟨pa0, pa1, pa2, pa3, pa4, paf0, paf1, paf2, paf3, paf4⟩ := Npa
            obtain ⟨pb0, pb1, pb2, pb3, pb4, pbf0, pbf1, pbf2, pbf3, pbf4⟩ := Npb
            obtain ⟨pj0, pj1, pj2, pj3, pj4, pjf0, pjf1, pjf2, pjf3, pjf4⟩ := Npj
            obtain ⟨pk0, pk1, pk2, pk3, pk4, pkf0, pkf1, pkf2, pkf3, pkf4⟩ := Npk
            have pal13 : w.heap.size < w13.heap.size := World.block_lt_of_cell? _ _ pa0
            have pan13 : w.heap.size ≠ w13.heap.size := Nat.ne_of_lt pal13
            have pbl13 : (w.heap.size + 1) < w13.heap.size := World.block_lt_of_cell? _ _ pb0
            have pbn13 : (w.heap.size + 1) ≠ w13.heap.size := Nat.ne_of_lt pbl13
            have pjl13 : g < w13.heap.size := World.block_lt_of_cell? _ _ pj0
            have pjn13 : g ≠ w13.heap.size := Nat.ne_of_lt pjl13
            have pkl13 : w6.heap.size < w13.heap.size := World.block_lt_of_cell? _ _ pk0
            have pkn13 : w6.heap.size ≠ w13.heap.size := Nat.ne_of_lt pkl13
            go_wp2
            go_returns
            exact ⟨ret_bool rfl, by repeat' (first | (with_reducible refine below_drewN ?_ _) | go_grown)⟩
          · have HNa : Hid (∀ W, Calls Try.prog 19 #[.agg #[.int .i64 d, .int .i64 c0, .int .i64 c1, .int .i64 c2, .int .i64 c3]] W (Ret (.tuple #[.agg #[.int .i64 0, .int .i64 0, .int .i64 0, .int .i64 0, .int .i64 0], .bool false]) W)) := fun W => by have h := leave_any d c0 c1 c2 c3 W; rw [en] at h; exact h
            have HNb : Hid (∀ W, Calls Try.prog 19 #[.agg #[.int .i64 d, .int .i64 x0, .int .i64 x1, .int .i64 x2, .int .i64 x3]] W (Ret (.tuple #[.agg #[.int .i64 0, .int .i64 0, .int .i64 0, .int .i64 0, .int .i64 0], .bool false]) W)) := fun W => by have h := leave_any d x0 x1 x2 x3 W; rw [em] at h; exact h
            clear en em hO
            go_wp2_with fail
            refine (HNa.out _).mono ?_
            rintro e w11 ⟨rfl, hb11⟩
            have hB11 : Below w.heap.size w w11 := bcall (by repeat' (first | (with_reducible refine below_drewN ?_ _) | go_grown)) hb11 (by first | go_size | (simp; omega))
            have hz11 := hb11.size
            have Npa : Own5 w11 w.heap.size (.int .i64 d) (.int .i64 c0) (.int .i64 c1) (.int .i64 c2) (.int .i64 c3) := Own5.below (by constructor <;> go_cell) hb11 (by first | go_size | (simp; omega))
            have Npb : Own5 w11 (w.heap.size + 1) (.int .i64 d) (.int .i64 x0) (.int .i64 x1) (.int .i64 x2) (.int .i64 x3) := Own5.below (by constructor <;> go_cell) hb11 (by first | go_size | (simp; omega))
            have Npj : Own5 w11 g (.int .i64 i) (.int .i64 i0) (.int .i64 i1) (.int .i64 i2) (.int .i64 i3) := Own5.below (by constructor <;> go_cell) hb11 (by first | go_size | (simp; omega))
            have Npk : Own5 w11 w6.heap.size (.int .i64 j) (.int .i64 j0) (.int .i64 j1) (.int .i64 j2) (.int .i64 j3) := Own5.below (by constructor <;> go_cell) hb11 (by first | go_size | (simp; omega))
            clear pa0 pa1 pa2 pa3 pa4 paf0 paf1 paf2 paf3 paf4 pb0 pb1 pb2 pb3 pb4 pbf0 pbf1 pbf2 pbf3 pbf4 pj0 pj1 pj2 pj3 pj4 pjf0 pjf1 pjf2 pjf3 pjf4 pk0 pk1 pk2 pk3 pk4 pkf0 pkf1 pkf2 pkf3 pkf4
            clear hB10
            try simp only [World.size_alloc] at hz11
            clear hb11
            obtain ⟨pa0, pa1, pa2, pa3, pa4, paf0, paf1, paf2, paf3, paf4⟩ := Npa
            obtain ⟨pb0, pb1, pb2, pb3, pb4, pbf0, pbf1, pbf2, pbf3, pbf4⟩ := Npb
            obtain ⟨pj0, pj1, pj2, pj3, pj4, pjf0, pjf1, pjf2, pjf3, pjf4⟩ := Npj
            obtain ⟨pk0, pk1, pk2, pk3, pk4, pkf0, pkf1, pkf2, pkf3, pkf4⟩ := Npk
            have pal11 : w.heap.size < w11.heap.size := World.block_lt_of_cell? _ _ pa0
            have pan11 : w.heap.size ≠ w11.heap.size := Nat.ne_of_lt pal11
            have pbl11 : (w.heap.size + 1) < w11.heap.size := World.block_lt_of_cell? _ _ pb0
            have pbn11 : (w.heap.size + 1) ≠ w11.heap.size := Nat.ne_of_lt pbl11
            have pjl11 : g < w11.heap.size := World.block_lt_of_cell? _ _ pj0
            have pjn11 : g ≠ w11.heap.size := Nat.ne_of_lt pjl11
            have pkl11 : w6.heap.size < w11.heap.size := World.block_lt_of_cell? _ _ pk0
            have pkn11 : w6.heap.size ≠ w11.heap.size := Nat.ne_of_lt pkl11
            go_wp2_with fail
            refine (HNb.out _).mono ?_
            rintro e w12 ⟨rfl, hb12⟩
            have hB12 : Below w.heap.size w w12 := bcall (by repeat' (first | (with_reducible refine below_drewN ?_ _) | go_grown)) hb12 (by first | go_size | (simp; omega))
            have hz12 := hb12.size
            have Npa : Own5 w12 w.heap.size (.int .i64 d) (.int .i64 c0) (.int .i64 c1) (.int .i64 c2) (.int .i64 c3) := Own5.below (by constructor <;> go_cell) hb12 (by first | go_size | (simp; omega))
            have Npb : Own5 w12 (w.heap.size + 1) (.int .i64 d) (.int .i64 x0) (.int .i64 x1) (.int .i64 x2) (.int .i64 x3) := Own5.below (by constructor <;> go_cell) hb12 (by first | go_size | (simp; omega))
            have Npj : Own5 w12 g (.int .i64 0) (.int .i64 0) (.int .i64 0) (.int .i64 0) (.int .i64 0) := Own5.below (by constructor <;> go_cell) hb12 (by first | go_size | (simp; omega))
            have Npk : Own5 w12 w6.heap.size (.int .i64 j) (.int .i64 j0) (.int .i64 j1) (.int .i64 j2) (.int .i64 j3) := Own5.below (by constructor <;> go_cell) hb12 (by first | go_size | (simp; omega))
            clear pa0 pa1 pa2 pa3 pa4 paf0 paf1 paf2 paf3 paf4 pb0 pb1 pb2 pb3 pb4 pbf0 pbf1 pbf2 pbf3 pbf4 pj0 pj1 pj2 pj3 pj4 pjf0 pjf1 pjf2 pjf3 pjf4 pk0 pk1 pk2 pk3 pk4 pkf0 pkf1 pkf2 pkf3 pkf4
            clear hB11
            try simp only [World.size_alloc] at hz12
            clear hb12
            obtain ⟨pa0, pa1, pa2, pa3, pa4, paf0, paf1, paf2, paf3, paf4⟩ := Npa
            obtain ⟨pb0, pb1, pb2, pb3, pb4, pbf0, pbf1, pbf2, pbf3, pbf4⟩ := Npb
            obtain ⟨pj0, pj1, pj2, pj3, pj4, pjf0, pjf1, pjf2, pjf3, pjf4⟩ := Npj
            obtain ⟨pk0, pk1, pk2, pk3, pk4, pkf0, pkf1, pkf2, pkf3, pkf4⟩ := Npk
            have pal12 : w.heap.size < w12.heap.size := World.block_lt_of_cell? _ _ pa0
            have pan12 : w.heap.size ≠ w12.heap.size := Nat.ne_of_lt pal12
            have pbl12 : (w.heap.size + 1) < w12.heap.size := World.block_lt_of_cell? _ _ pb0
            have pbn12 : (w.heap.size + 1) ≠ w12.heap.size := Nat.ne_of_lt pbl12
            have pjl12 : g < w12.heap.size := World.block_lt_of_cell? _ _ pj0
            have pjn12 : g ≠ w12.heap.size := Nat.ne_of_lt pjl12
            have pkl12 : w6.heap.size < w12.heap.size := World.block_lt_of_cell? _ _ pk0
            have pkn12 : w6.heap.size ≠ w12.heap.size := Nat.ne_of_lt pkl12
            go_wp2
            go_returns
            exact ⟨ret_bool rfl, by repeat' (first | (with_reducible refine below_drewN ?_ _) | go_grown)⟩
        · have HNa : Hid (∀ W, Calls Try.prog 17 #[.agg #[.int .i64 d, .int .i64 c0, .int .i64 c1, .int .i64 c2, .int .i64 c3]] W (Ret (.tuple #[.agg #[.int .i64 0, .int .i64 0, .int .i64 0, .int .i64 0, .int .i64 0], .bool false]) W)) := fun W => by have h := enter_any d c0 c1 c2 c3 W; rw [en] at h; exact h
          have HNb : Hid (∀ W, Calls Try.prog 17 #[.agg #[.int .i64 d, .int .i64 x0, .int .i64 x1, .int .i64 x2, .int .i64 x3]] W (Ret (.tuple #[.agg #[.int .i64 0, .int .i64 0, .int .i64 0, .int .i64 0, .int .i64 0], .bool false]) W)) := fun W => by have h := enter_any d x0 x1 x2 x3 W; rw [em] at h; exact h
          clear en em hI
          go_wp2_with fail
          refine (HNa.out _).mono ?_
          rintro e w8 ⟨rfl, hb8⟩
          have hB8 : Below w.heap.size w w8 := bcall (by repeat' (first | (with_reducible refine below_drewN ?_ _) | go_grown)) hb8 (by first | go_size | (simp; omega))
          have hz8 := hb8.size
          have Npa : Own5 w8 w.heap.size (.int .i64 d) (.int .i64 c0) (.int .i64 c1) (.int .i64 c2) (.int .i64 c3) := Own5.below (by constructor <;> go_cell) hb8 (by first | go_size | (simp; omega))
          have Npb : Own5 w8 (w.heap.size + 1) (.int .i64 d) (.int .i64 x0) (.int .i64 x1) (.int .i64 x2) (.int .i64 x3) := Own5.below (by constructor <;> go_cell) hb8 (by first | go_size | (simp; omega))
          have Npj : Own5 w8 g (.int .i64 d) (.int .i64 p0) (.int .i64 p1) (.int .i64 p2) (.int .i64 p3) := Own5.below (by constructor <;> go_cell) hb8 (by first | go_size | (simp; omega))
          have Npk : Own5 w8 w6.heap.size (.int .i64 q) (.int .i64 q0) (.int .i64 q1) (.int .i64 q2) (.int .i64 q3) := Own5.below (by constructor <;> go_cell) hb8 (by first | go_size | (simp; omega))
          clear pa0 pa1 pa2 pa3 pa4 paf0 paf1 paf2 paf3 paf4 pb0 pb1 pb2 pb3 pb4 pbf0 pbf1 pbf2 pbf3 pbf4 pj0 pj1 pj2 pj3 pj4 pjf0 pjf1 pjf2 pjf3 pjf4 pk0 pk1 pk2 pk3 pk4 pkf0 pkf1 pkf2 pkf3 pkf4
          clear hB7
          try simp only [World.size_alloc] at hz8
          clear hb8
          obtain ⟨pa0, pa1, pa2, pa3, pa4, paf0, paf1, paf2, paf3, paf4⟩ := Npa
          obtain ⟨pb0, pb1, pb2, pb3, pb4, pbf0, pbf1, pbf2, pbf3, pbf4⟩ := Npb
          obtain ⟨pj0, pj1, pj2, pj3, pj4, pjf0, pjf1, pjf2, pjf3, pjf4⟩ := Npj
          obtain ⟨pk0, pk1, pk2, pk3, pk4, pkf0, pkf1, pkf2, pkf3, pkf4⟩ := Npk
          have pal8 : w.heap.size < w8.heap.size := World.block_lt_of_cell? _ _ pa0
          have pan8 : w.heap.size ≠ w8.heap.size := Nat.ne_of_lt pal8
          have pbl8 : (w.heap.size + 1) < w8.heap.size := World.block_lt_of_cell? _ _ pb0
          have pbn8 : (w.heap.size + 1) ≠ w8.heap.size := Nat.ne_of_lt pbl8
          have pjl8 : g < w8.heap.size := World.block_lt_of_cell? _ _ pj0
          have pjn8 : g ≠ w8.heap.size := Nat.ne_of_lt pjl8
          have pkl8 : w6.heap.size < w8.heap.size := World.block_lt_of_cell? _ _ pk0
          have pkn8 : w6.heap.size ≠ w8.heap.size := Nat.ne_of_lt pkl8
          go_wp2_with fail
          refine (HNb.out _).mono ?_
          rintro e w9 ⟨rfl, hb9⟩
          have hB9 : Below w.heap.size w w9 := bcall (by repeat' (first | (with_reducible refine below_drewN ?_ _) | go_grown)) hb9 (by first | go_size | (simp; omega))
          have hz9 := hb9.size
          have Npa : Own5 w9 w.heap.size (.int .i64 d) (.int .i64 c0) (.int .i64 c1) (.int .i64 c2) (.int .i64 c3) := Own5.below (by constructor <;> go_cell) hb9 (by first | go_size | (simp; omega))
          have Npb : Own5 w9 (w.heap.size + 1) (.int .i64 d) (.int .i64 x0) (.int .i64 x1) (.int .i64 x2) (.int .i64 x3) := Own5.below (by constructor <;> go_cell) hb9 (by first | go_size | (simp; omega))
          have Npj : Own5 w9 g (.int .i64 0) (.int .i64 0) (.int .i64 0) (.int .i64 0) (.int .i64 0) := Own5.below (by constructor <;> go_cell) hb9 (by first | go_size | (simp; omega))
          have Npk : Own5 w9 w6.heap.size (.int .i64 q) (.int .i64 q0) (.int .i64 q1) (.int .i64 q2) (.int .i64 q3) := Own5.below (by constructor <;> go_cell) hb9 (by first | go_size | (simp; omega))
          clear pa0 pa1 pa2 pa3 pa4 paf0 paf1 paf2 paf3 paf4 pb0 pb1 pb2 pb3 pb4 pbf0 pbf1 pbf2 pbf3 pbf4 pj0 pj1 pj2 pj3 pj4 pjf0 pjf1 pjf2 pjf3 pjf4 pk0 pk1 pk2 pk3 pk4 pkf0 pkf1 pkf2 pkf3 pkf4
          clear hB8
          try simp only [World.size_alloc] at hz9
          clear hb9
          obtain ⟨pa0, pa1, pa2, pa3, pa4, paf0, paf1, paf2, paf3, paf4⟩ := Npa
          obtain ⟨pb0, pb1, pb2, pb3, pb4, pbf0, pbf1, pbf2, pbf3, pbf4⟩ := Npb
          obtain ⟨pj0, pj1, pj2, pj3, pj4, pjf0, pjf1, pjf2, pjf3, pjf4⟩ := Npj
          obtain ⟨pk0, pk1, pk2, pk3, pk4, pkf0, pkf1, pkf2, pkf3, pkf4⟩ := Npk
          have pal9 : w.heap.size < w9.heap.size := World.block_lt_of_cell? _ _ pa0
          have pan9 : w.heap.size ≠ w9.heap.size := Nat.ne_of_lt pal9
          have pbl9 : (w.heap.size + 1) < w9.heap.size := World.block_lt_of_cell? _ _ pb0
          have pbn9 : (w.heap.size + 1) ≠ w9.heap.size := Nat.ne_of_lt pbl9
          have pjl9 : g < w9.heap.size := World.block_lt_of_cell? _ _ pj0
          have pjn9 : g ≠ w9.heap.size := Nat.ne_of_lt pjl9
          have pkl9 : w6.heap.size < w9.heap.size := World.block_lt_of_cell? _ _ pk0
          have pkn9 : w6.heap.size ≠ w9.heap.size := Nat.ne_of_lt pkl9
          clear HNa HNb
          rcases hO.out with ⟨s, s0, s1, s2, s3, t, t0, t1, t2, t3, en, em, hle⟩ | ⟨en, em⟩
          · have HNa : Hid (∀ W, Calls Try.prog 19 #[.agg #[.int .i64 d, .int .i64 c0, .int .i64 c1, .int .i64 c2, .int .i64 c3]] W (Ret (.tuple #[.agg #[.int .i64 s, .int .i64 s0, .int .i64 s1, .int .i64 s2, .int .i64 s3], .bool true]) W)) := fun W => by have h := leave_any d c0 c1 c2 c3 W; rw [en] at h; exact h
            have HNb : Hid (∀ W, Calls Try.prog 19 #[.agg #[.int .i64 d, .int .i64 x0, .int .i64 x1, .int .i64 x2, .int .i64 x3]] W (Ret (.tuple #[.agg #[.int .i64 t, .int .i64 t0, .int .i64 t1, .int .i64 t2, .int .i64 t3], .bool true]) W)) := fun W => by have h := leave_any d x0 x1 x2 x3 W; rw [em] at h; exact h
            have HNl := Lib.hid (le_is hle)
            clear hle
            clear en em hO
            go_wp2_with fail
            refine (HNa.out _).mono ?_
            rintro e w10 ⟨rfl, hb10⟩
            have hB10 : Below w.heap.size w w10 := bcall (by repeat' (first | (with_reducible refine below_drewN ?_ _) | go_grown)) hb10 (by first | go_size | (simp; omega))
            have hz10 := hb10.size
            have Npa : Own5 w10 w.heap.size (.int .i64 d) (.int .i64 c0) (.int .i64 c1) (.int .i64 c2) (.int .i64 c3) := Own5.below (by constructor <;> go_cell) hb10 (by first | go_size | (simp; omega))
            have Npb : Own5 w10 (w.heap.size + 1) (.int .i64 d) (.int .i64 x0) (.int .i64 x1) (.int .i64 x2) (.int .i64 x3) := Own5.below (by constructor <;> go_cell) hb10 (by first | go_size | (simp; omega))
            have Npj : Own5 w10 g (.int .i64 0) (.int .i64 0) (.int .i64 0) (.int .i64 0) (.int .i64 0) := Own5.below (by constructor <;> go_cell) hb10 (by first | go_size | (simp; omega))
            have Npk : Own5 w10 w6.heap.size (.int .i64 0) (.int .i64 0) (.int .i64 0) (.int .i64 0) (.int .i64 0) := Own5.below (by constructor <;> go_cell) hb10 (by first | go_size | (simp; omega))
            clear pa0 pa1 pa2 pa3 pa4 paf0 paf1 paf2 paf3 paf4 pb0 pb1 pb2 pb3 pb4 pbf0 pbf1 pbf2 pbf3 pbf4 pj0 pj1 pj2 pj3 pj4 pjf0 pjf1 pjf2 pjf3 pjf4 pk0 pk1 pk2 pk3 pk4 pkf0 pkf1 pkf2 pkf3 pkf4
            clear hB9
            try simp only [World.size_alloc] at hz10
            clear hb10
            obtain ⟨pa0, pa1, pa2, pa3, pa4, paf0, paf1, paf2, paf3, paf4⟩ := Npa
            obtain ⟨pb0, pb1, pb2, pb3, pb4, pbf0, pbf1, pbf2, pbf3, pbf4⟩ := Npb
            obtain ⟨pj0, pj1, pj2, pj3, pj4, pjf0, pjf1, pjf2, pjf3, pjf4⟩ := Npj
            obtain ⟨pk0, pk1, pk2, pk3, pk4, pkf0, pkf1, pkf2, pkf3, pkf4⟩ := Npk
            have pal10 : w.heap.size < w10.heap.size := World.block_lt_of_cell? _ _ pa0
            have pan10 : w.heap.size ≠ w10.heap.size := Nat.ne_of_lt pal10
            have pbl10 : (w.heap.size + 1) < w10.heap.size := World.block_lt_of_cell? _ _ pb0
            have pbn10 : (w.heap.size + 1) ≠ w10.heap.size := Nat.ne_of_lt pbl10
            have pjl10 : g < w10.heap.size := World.block_lt_of_cell? _ _ pj0
            have pjn10 : g ≠ w10.heap.size := Nat.ne_of_lt pjl10
            have pkl10 : w6.heap.size < w10.heap.size := World.block_lt_of_cell? _ _ pk0
            have pkn10 : w6.heap.size ≠ w10.heap.size := Nat.ne_of_lt pkl10
            go_wp2_with fail
            refine (HNb.out _).mono ?_
            rintro e w11 ⟨rfl, hb11⟩
            have hB11 : Below w.heap.size w w11 := bcall (by repeat' (first | (with_reducible refine below_drewN ?_ _) | go_grown)) hb11 (by first | go_size | (simp; omega))
            have hz11 := hb11.size
            have Npa : Own5 w11 w.heap.size (.int .i64 d) (.int .i64 c0) (.int .i64 c1) (.int .i64 c2) (.int .i64 c3) := Own5.below (by constructor <;> go_cell) hb11 (by first | go_size | (simp; omega))
            have Npb : Own5 w11 (w.heap.size + 1) (.int .i64 d) (.int .i64 x0) (.int .i64 x1) (.int .i64 x2) (.int .i64 x3) := Own5.below (by constructor <;> go_cell) hb11 (by first | go_size | (simp; omega))
            have Npj : Own5 w11 g (.int .i64 s) (.int .i64 s0) (.int .i64 s1) (.int .i64 s2) (.int .i64 s3) := Own5.below (by constructor <;> go_cell) hb11 (by first | go_size | (simp; omega))
            have Npk : Own5 w11 w6.heap.size (.int .i64 0) (.int .i64 0) (.int .i64 0) (.int .i64 0) (.int .i64 0) := Own5.below (by constructor <;> go_cell) hb11 (by first | go_size | (simp; omega))
            clear pa0 pa1 pa2 pa3 pa4 paf0 paf1 paf2 paf3 paf4 pb0 pb1 pb2 pb3 pb4 pbf0 pbf1 pbf2 pbf3 pbf4 pj0 pj1 pj2 pj3 pj4 pjf0 pjf1 pjf2 pjf3 pjf4 pk0 pk1 pk2 pk3 pk4 pkf0 pkf1 pkf2 pkf3 pkf4
            clear hB10
            try simp only [World.size_alloc] at hz11
            clear hb11
            obtain ⟨pa0, pa1, pa2, pa3, pa4, paf0, paf1, paf2, paf3, paf4⟩ := Npa
            obtain ⟨pb0, pb1, pb2, pb3, pb4, pbf0, pbf1, pbf2, pbf3, pbf4⟩ := Npb
            obtain ⟨pj0, pj1, pj2, pj3, pj4, pjf0, pjf1, pjf2, pjf3, pjf4⟩ := Npj
            obtain ⟨pk0, pk1, pk2, pk3, pk4, pkf0, pkf1, pkf2, pkf3, pkf4⟩ := Npk
            have pal11 : w.heap.size < w11.heap.size := World.block_lt_of_cell? _ _ pa0
            have pan11 : w.heap.size ≠ w11.heap.size := Nat.ne_of_lt pal11
            have pbl11 : (w.heap.size + 1) < w11.heap.size := World.block_lt_of_cell? _ _ pb0
            have pbn11 : (w.heap.size + 1) ≠ w11.heap.size := Nat.ne_of_lt pbl11
            have pjl11 : g < w11.heap.size := World.block_lt_of_cell? _ _ pj0
            have pjn11 : g ≠ w11.heap.size := Nat.ne_of_lt pjl11
            have pkl11 : w6.heap.size < w11.heap.size := World.block_lt_of_cell? _ _ pk0
            have pkn11 : w6.heap.size ≠ w11.heap.size := Nat.ne_of_lt pkl11
            go_wp2_with fail
            refine (HNl.out _).mono ?_
            rintro e w12 ⟨rfl, hb12⟩
            have hB12 : Below w.heap.size w w12 := bcall (by repeat' (first | (with_reducible refine below_drewN ?_ _) | go_grown)) hb12 (by first | go_size | (simp; omega))
            have hz12 := hb12.size
            have Npa : Own5 w12 w.heap.size (.int .i64 d) (.int .i64 c0) (.int .i64 c1) (.int .i64 c2) (.int .i64 c3) := Own5.below (by constructor <;> go_cell) hb12 (by first | go_size | (simp; omega))
            have Npb : Own5 w12 (w.heap.size + 1) (.int .i64 d) (.int .i64 x0) (.int .i64 x1) (.int .i64 x2) (.int .i64 x3) := Own5.below (by constructor <;> go_cell) hb12 (by first | go_size | (simp; omega))
            have Npj : Own5 w12 g (.int .i64 s) (.int .i64 s0) (.int .i64 s1) (.int .i64 s2) (.int .i64 s3) := Own5.below (by constructor <;> go_cell) hb12 (by first | go_size | (simp; omega))
            have Npk : Own5 w12 w6.heap.size (.int .i64 t) (.int .i64 t0) (.int .i64 t1) (.int .i64 t2) (.int .i64 t3) := Own5.below (by constructor <;> go_cell) hb12 (by first | go_size | (simp; omega))
            clear pa0 pa1 pa2 pa3 pa4 paf0 paf1 paf2 paf3 paf4 pb0 pb1 pb2 pb3 pb4 pbf0 pbf1 pbf2 pbf3 pbf4 pj0 pj1 pj2 pj3 pj4 pjf0 pjf1 pjf2 pjf3 pjf4 pk0 pk1 pk2 pk3 pk4 pkf0 pkf1 pkf2 pkf3 pkf4
            clear hB11
            try simp only [World.size_alloc] at hz12
            clear hb12
            obtain ⟨pa0, pa1, pa2, pa3, pa4, paf0, paf1, paf2, paf3, paf4⟩ := Npa
            obtain ⟨pb0, pb1, pb2, pb3, pb4, pbf0, pbf1, pbf2, pbf3, pbf4⟩ := Npb
            obtain ⟨pj0, pj1, pj2, pj3, pj4, pjf0, pjf1, pjf2, pjf3, pjf4⟩ := Npj
            obtain ⟨pk0, pk1, pk2, pk3, pk4, pkf0, pkf1, pkf2, pkf3, pkf4⟩ := Npk
            have pal12 : w.heap.size < w12.heap.size := World.block_lt_of_cell? _ _ pa0
            have pan12 : w.heap.size ≠ w12.heap.size := Nat.ne_of_lt pal12
            have pbl12 : (w.heap.size + 1) < w12.heap.size := World.block_lt_of_cell? _ _ pb0
            have pbn12 : (w.heap.size + 1) ≠ w12.heap.size := Nat.ne_of_lt pbl12
            have pjl12 : g < w12.heap.size := World.block_lt_of_cell? _ _ pj0
            have pjn12 : g ≠ w12.heap.size := Nat.ne_of_lt pjl12
            have pkl12 : w6.heap.size < w12.heap.size := World.block_lt_of_cell? _ _ pk0
            have pkn12 : w6.heap.size ≠ w12.heap.size := Nat.ne_of_lt pkl12
            go_wp2
            go_returns
            exact ⟨ret_bool rfl, by repeat' (first | (with_reducible refine below_drewN ?_ _) | go_grown)⟩
          · have HNa : Hid (∀ W, Calls Try.prog 19 #[.agg #[.int .i64 d, .int .i64 c0, .int .i64 c1, .int .i64 c2, .int .i64 c3]] W (Ret (.tuple #[.agg #[.int .i64 0, .int .i64 0, .int .i64 0, .int .i64 0, .int .i64 0], .bool false]) W)) := fun W => by have h := leave_any d c0 c1 c2 c3 W; rw [en] at h; exact h
            have HNb : Hid (∀ W, Calls Try.prog 19 #[.agg #[.int .i64 d, .int .i64 x0, .int .i64 x1, .int .i64 x2, .int .i64 x3]] W (Ret (.tuple #[.agg #[.int .i64 0, .int .i64 0, .int .i64 0, .int .i64 0, .int .i64 0], .bool false]) W)) := fun W => by have h := leave_any d x0 x1 x2 x3 W; rw [em] at h; exact h
            clear en em hO
            go_wp2_with fail
            refine (HNa.out _).mono ?_
            rintro e w10 ⟨rfl, hb10⟩
            have hB10 : Below w.heap.size w w10 := bcall (by repeat' (first | (with_reducible refine below_drewN ?_ _) | go_grown)) hb10 (by first | go_size | (simp; omega))
            have hz10 := hb10.size
            have Npa : Own5 w10 w.heap.size (.int .i64 d) (.int .i64 c0) (.int .i64 c1) (.int .i64 c2) (.int .i64 c3) := Own5.below (by constructor <;> go_cell) hb10 (by first | go_size | (simp; omega))
            have Npb : Own5 w10 (w.heap.size + 1) (.int .i64 d) (.int .i64 x0) (.int .i64 x1) (.int .i64 x2) (.int .i64 x3) := Own5.below (by constructor <;> go_cell) hb10 (by first | go_size | (simp; omega))
            have Npj : Own5 w10 g (.int .i64 0) (.int .i64 0) (.int .i64 0) (.int .i64 0) (.int .i64 0) := Own5.below (by constructor <;> go_cell) hb10 (by first | go_size | (simp; omega))
            have Npk : Own5 w10 w6.heap.size (.int .i64 0) (.int .i64 0) (.int .i64 0) (.int .i64 0) (.int .i64 0) := Own5.below (by constructor <;> go_cell) hb10 (by first | go_size | (simp; omega))
            clear pa0 pa1 pa2 pa3 pa4 paf0 paf1 paf2 paf3 paf4 pb0 pb1 pb2 pb3 pb4 pbf0 pbf1 pbf2 pbf3 pbf4 pj0 pj1 pj2 pj3 pj4 pjf0 pjf1 pjf2 pjf3 pjf4 pk0 pk1 pk2 pk3 pk4 pkf0 pkf1 pkf2 pkf3 pkf4
            clear hB9
            try simp only [World.size_alloc] at hz10
            clear hb10
            obtain ⟨pa0, pa1, pa2, pa3, pa4, paf0, paf1, paf2, paf3, paf4⟩ := Npa
            obtain ⟨pb0, pb1, pb2, pb3, pb4, pbf0, pbf1, pbf2, pbf3, pbf4⟩ := Npb
            obtain ⟨pj0, pj1, pj2, pj3, pj4, pjf0, pjf1, pjf2, pjf3, pjf4⟩ := Npj
            obtain ⟨pk0, pk1, pk2, pk3, pk4, pkf0, pkf1, pkf2, pkf3, pkf4⟩ := Npk
            have pal10 : w.heap.size < w10.heap.size := World.block_lt_of_cell? _ _ pa0
            have pan10 : w.heap.size ≠ w10.heap.size := Nat.ne_of_lt pal10
            have pbl10 : (w.heap.size + 1) < w10.heap.size := World.block_lt_of_cell? _ _ pb0
            have pbn10 : (w.heap.size + 1) ≠ w10.heap.size := Nat.ne_of_lt pbl10
            have pjl10 : g < w10.heap.size := World.block_lt_of_cell? _ _ pj0
            have pjn10 : g ≠ w10.heap.size := Nat.ne_of_lt pjl10
            have pkl10 : w6.heap.size < w10.heap.size := World.block_lt_of_cell? _ _ pk0
            have pkn10 : w6.heap.size ≠ w10.heap.size := Nat.ne_of_lt pkl10
            go_wp2_with fail
            refine (HNb.out _).mono ?_
            rintro e w11 ⟨rfl, hb11⟩
            have hB11 : Below w.heap.size w w11 := bcall (by repeat' (first | (with_reducible refine below_drewN ?_ _) | go_grown)) hb11 (by first | go_size | (simp; omega))
            have hz11 := hb11.size
            have Npa : Own5 w11 w.heap.size (.int .i64 d) (.int .i64 c0) (.int .i64 c1) (.int .i64 c2) (.int .i64 c3) := Own5.below (by constructor <;> go_cell) hb11 (by first | go_size | (simp; omega))
            have Npb : Own5 w11 (w.heap.size + 1) (.int .i64 d) (.int .i64 x0) (.int .i64 x1) (.int .i64 x2) (.int .i64 x3) := Own5.below (by constructor <;> go_cell) hb11 (by first | go_size | (simp; omega))
            have Npj : Own5 w11 g (.int .i64 0) (.int .i64 0) (.int .i64 0) (.int .i64 0) (.int .i64 0) := Own5.below (by constructor <;> go_cell) hb11 (by first | go_size | (simp; omega))
            have Npk : Own5 w11 w6.heap.size (.int .i64 0) (.int .i64 0) (.int .i64 0) (.int .i64 0) (.int .i64 0) := Own5.below (by constructor <;> go_cell) hb11 (by first | go_size | (simp; omega))
            clear pa0 pa1 pa2 pa3 pa4 paf0 paf1 paf2 paf3 paf4 pb0 pb1 pb2 pb3 pb4 pbf0 pbf1 pbf2 pbf3 pbf4 pj0 pj1 pj2 pj3 pj4 pjf0 pjf1 pjf2 pjf3 pjf4 pk0 pk1 pk2 pk3 pk4 pkf0 pkf1 pkf2 pkf3 pkf4
            clear hB10
            try simp only [World.size_alloc] at hz11
            clear hb11
            obtain ⟨pa0, pa1, pa2, pa3, pa4, paf0, paf1, paf2, paf3, paf4⟩ := Npa
            obtain ⟨pb0, pb1, pb2, pb3, pb4, pbf0, pbf1, pbf2, pbf3, pbf4⟩ := Npb
            obtain ⟨pj0, pj1, pj2, pj3, pj4, pjf0, pjf1, pjf2, pjf3, pjf4⟩ := Npj
            obtain ⟨pk0, pk1, pk2, pk3, pk4, pkf0, pkf1, pkf2, pkf3, pkf4⟩ := Npk
            have pal11 : w.heap.size < w11.heap.size := World.block_lt_of_cell? _ _ pa0
            have pan11 : w.heap.size ≠ w11.heap.size := Nat.ne_of_lt pal11
            have pbl11 : (w.heap.size + 1) < w11.heap.size := World.block_lt_of_cell? _ _ pb0
            have pbn11 : (w.heap.size + 1) ≠ w11.heap.size := Nat.ne_of_lt pbl11
            have pjl11 : g < w11.heap.size := World.block_lt_of_cell? _ _ pj0
            have pjn11 : g ≠ w11.heap.size := Nat.ne_of_lt pjl11
            have pkl11 : w6.heap.size < w11.heap.size := World.block_lt_of_cell? _ _ pk0
            have pkn11 : w6.heap.size ≠ w11.heap.size := Nat.ne_of_lt pkl11
            go_wp2
            go_returns
            exact ⟨ret_bool rfl, by repeat' (first | (with_reducible refine below_drewN ?_ _) | go_grown)⟩
      · have HNa : Hid (∀ W, Calls Try.prog 20 #[.agg #[.int .i64 d, .int .i64 c0, .int .i64 c1, .int .i64 c2, .int .i64 c3]] W (Ret (.tuple #[.agg #[.int .i64 d, .int .i64 p0, .int .i64 p1, .int .i64 p2, .int .i64 p3], .bool true]) W)) := fun W => by have h := next_any d c0 c1 c2 c3 W; rw [en] at h; exact h
        have HNb : Hid (∀ W, Calls Try.prog 20 #[.agg #[.int .i64 d, .int .i64 x0, .int .i64 x1, .int .i64 x2, .int .i64 x3]] W (Ret (.tuple #[.agg #[.int .i64 0, .int .i64 0, .int .i64 0, .int .i64 0, .int .i64 0], .bool false]) W)) := fun W => by have h := next_any d x0 x1 x2 x3 W; rw [em] at h; exact h
        clear en em hN
        go_wp2_with fail
        refine (HNa.out _).mono ?_
        rintro e w5 ⟨rfl, hb5⟩
        have hB5 : Below w.heap.size w w5 := bcall (by repeat' (first | (with_reducible refine below_drewN ?_ _) | go_grown)) hb5 (by first | go_size | (simp; omega))
        have hz5 := hb5.size
        have Npa : Own5 w5 w.heap.size (.int .i64 d) (.int .i64 c0) (.int .i64 c1) (.int .i64 c2) (.int .i64 c3) := Own5.below (by constructor <;> go_cell) hb5 (by first | go_size | (simp; omega))
        have Npb : Own5 w5 (w.heap.size + 1) (.int .i64 d) (.int .i64 x0) (.int .i64 x1) (.int .i64 x2) (.int .i64 x3) := Own5.below (by constructor <;> go_cell) hb5 (by first | go_size | (simp; omega))
        have Npj : Own5 w5 g (.int .i64 y) (.int .i64 y0) (.int .i64 y1) (.int .i64 y2) (.int .i64 y3) := Own5.below (by constructor <;> go_cell) hb5 (by first | go_size | (simp; omega))
        clear pa0 pa1 pa2 pa3 pa4 paf0 paf1 paf2 paf3 paf4 pb0 pb1 pb2 pb3 pb4 pbf0 pbf1 pbf2 pbf3 pbf4 pj0 pj1 pj2 pj3 pj4 pjf0 pjf1 pjf2 pjf3 pjf4
        clear hB4
        try simp only [World.size_alloc] at hz5
        clear hb5
        obtain ⟨pa0, pa1, pa2, pa3, pa4, paf0, paf1, paf2, paf3, paf4⟩ := Npa
        obtain ⟨pb0, pb1, pb2, pb3, pb4, pbf0, pbf1, pbf2, pbf3, pbf4⟩ := Npb
        obtain ⟨pj0, pj1, pj2, pj3, pj4, pjf0, pjf1, pjf2, pjf3, pjf4⟩ := Npj
        have pal5 : w.heap.size < w5.heap.size := World.block_lt_of_cell? _ _ pa0
        have pan5 : w.heap.size ≠ w5.heap.size := Nat.ne_of_lt pal5
        have pbl5 : (w.heap.size + 1) < w5.heap.size := World.block_lt_of_cell? _ _ pb0
        have pbn5 : (w.heap.size + 1) ≠ w5.heap.size := Nat.ne_of_lt pbl5
        have pjl5 : g < w5.heap.size := World.block_lt_of_cell? _ _ pj0
        have pjn5 : g ≠ w5.heap.size := Nat.ne_of_lt pjl5
        go_wp2_with fail
        refine (HNb.out _).mono ?_
        rintro e w6 ⟨rfl, hb6⟩
        have hB6 : Below w.heap.size w w6 := bcall (by repeat' (first | (with_reducible refine below_drewN ?_ _) | go_grown)) hb6 (by first | go_size | (simp; omega))
        have hz6 := hb6.size
        have Npa : Own5 w6 w.heap.size (.int .i64 d) (.int .i64 c0) (.int .i64 c1) (.int .i64 c2) (.int .i64 c3) := Own5.below (by constructor <;> go_cell) hb6 (by first | go_size | (simp; omega))
        have Npb : Own5 w6 (w.heap.size + 1) (.int .i64 d) (.int .i64 x0) (.int .i64 x1) (.int .i64 x2) (.int .i64 x3) := Own5.below (by constructor <;> go_cell) hb6 (by first | go_size | (simp; omega))
        have Npj : Own5 w6 g (.int .i64 d) (.int .i64 p0) (.int .i64 p1) (.int .i64 p2) (.int .i64 p3) := Own5.below (by constructor <;> go_cell) hb6 (by first | go_size | (simp; omega))
        clear pa0 pa1 pa2 pa3 pa4 paf0 paf1 paf2 paf3 paf4 pb0 pb1 pb2 pb3 pb4 pbf0 pbf1 pbf2 pbf3 pbf4 pj0 pj1 pj2 pj3 pj4 pjf0 pjf1 pjf2 pjf3 pjf4
        clear hB5
        try simp only [World.size_alloc] at hz6
        clear hb6
        obtain ⟨pa0, pa1, pa2, pa3, pa4, paf0, paf1, paf2, paf3, paf4⟩ := Npa
        obtain ⟨pb0, pb1, pb2, pb3, pb4, pbf0, pbf1, pbf2, pbf3, pbf4⟩ := Npb
        obtain ⟨pj0, pj1, pj2, pj3, pj4, pjf0, pjf1, pjf2, pjf3, pjf4⟩ := Npj
        have pal6 : w.heap.size < w6.heap.size := World.block_lt_of_cell? _ _ pa0
        have pan6 : w.heap.size ≠ w6.heap.size := Nat.ne_of_lt pal6
        have pbl6 : (w.heap.size + 1) < w6.heap.size := World.block_lt_of_cell? _ _ pb0
        have pbn6 : (w.heap.size + 1) ≠ w6.heap.size := Nat.ne_of_lt pbl6
        have pjl6 : g < w6.heap.size := World.block_lt_of_cell? _ _ pj0
        have pjn6 : g ≠ w6.heap.size := Nat.ne_of_lt pjl6
        clear HNa HNb
        rcases hI.out with ⟨i, i0, i1, i2, i3, j, j0, j1, j2, j3, en, em, hle⟩ | ⟨en, em⟩
        · have HNa : Hid (∀ W, Calls Try.prog 17 #[.agg #[.int .i64 d, .int .i64 c0, .int .i64 c1, .int .i64 c2, .int .i64 c3]] W (Ret (.tuple #[.agg #[.int .i64 i, .int .i64 i0, .int .i64 i1, .int .i64 i2, .int .i64 i3], .bool true]) W)) := fun W => by have h := enter_any d c0 c1 c2 c3 W; rw [en] at h; exact h
          have HNb : Hid (∀ W, Calls Try.prog 17 #[.agg #[.int .i64 d, .int .i64 x0, .int .i64 x1, .int .i64 x2, .int .i64 x3]] W (Ret (.tuple #[.agg #[.int .i64 j, .int .i64 j0, .int .i64 j1, .int .i64 j2, .int .i64 j3], .bool true]) W)) := fun W => by have h := enter_any d x0 x1 x2 x3 W; rw [em] at h; exact h
          have HNl := Lib.hid (le_is hle)
          clear hle
          clear en em hI
          go_wp2_with fail
          refine (HNa.out _).mono ?_
          rintro e w7 ⟨rfl, hb7⟩
          have hB7 : Below w.heap.size w w7 := bcall (by repeat' (first | (with_reducible refine below_drewN ?_ _) | go_grown)) hb7 (by first | go_size | (simp; omega))
          have hz7 := hb7.size
          have Npa : Own5 w7 w.heap.size (.int .i64 d) (.int .i64 c0) (.int .i64 c1) (.int .i64 c2) (.int .i64 c3) := Own5.below (by constructor <;> go_cell) hb7 (by first | go_size | (simp; omega))
          have Npb : Own5 w7 (w.heap.size + 1) (.int .i64 d) (.int .i64 x0) (.int .i64 x1) (.int .i64 x2) (.int .i64 x3) := Own5.below (by constructor <;> go_cell) hb7 (by first | go_size | (simp; omega))
          have Npj : Own5 w7 g (.int .i64 d) (.int .i64 p0) (.int .i64 p1) (.int .i64 p2) (.int .i64 p3) := Own5.below (by constructor <;> go_cell) hb7 (by first | go_size | (simp; omega))
          have Npk : Own5 w7 w6.heap.size (.int .i64 0) (.int .i64 0) (.int .i64 0) (.int .i64 0) (.int .i64 0) := Own5.below (by constructor <;> go_cell) hb7 (by first | go_size | (simp; omega))
          clear pa0 pa1 pa2 pa3 pa4 paf0 paf1 paf2 paf3 paf4 pb0 pb1 pb2 pb3 pb4 pbf0 pbf1 pbf2 pbf3 pbf4 pj0 pj1 pj2 pj3 pj4 pjf0 pjf1 pjf2 pjf3 pjf4
          clear hB6
          try simp only [World.size_alloc] at hz7
          clear hb7
          obtain ⟨pa0, pa1, pa2, pa3, pa4, paf0, paf1, paf2, paf3, paf4⟩ := Npa
          obtain ⟨pb0, pb1, pb2, pb3, pb4, pbf0, pbf1, pbf2, pbf3, pbf4⟩ := Npb
          obtain ⟨pj0, pj1, pj2, pj3, pj4, pjf0, pjf1, pjf2, pjf3, pjf4⟩ := Npj
          obtain ⟨pk0, pk1, pk2, pk3, pk4, pkf0, pkf1, pkf2, pkf3, pkf4⟩ := Npk
          have pal7 : w.heap.size < w7.heap.size := World.block_lt_of_cell? _ _ pa0
          have pan7 : w.heap.size ≠ w7.heap.size := Nat.ne_of_lt pal7
          have pbl7 : (w.heap.size + 1) < w7.heap.size := World.block_lt_of_cell? _ _ pb0
          have pbn7 : (w.heap.size + 1) ≠ w7.heap.size := Nat.ne_of_lt pbl7
          have pjl7 : g < w7.heap.size := World.block_lt_of_cell? _ _ pj0
          have pjn7 : g ≠ w7.heap.size := Nat.ne_of_lt pjl7
          have pkl7 : w6.heap.size < w7.heap.size := World.block_lt_of_cell? _ _ pk0
          have pkn7 : w6.heap.size ≠ w7.heap.size := Nat.ne_of_lt pkl7
          go_wp2_with fail
          refine (HNb.out _).mono ?_
          rintro e w8 ⟨rfl, hb8⟩
          have hB8 : Below w.heap.size w w8 := bcall (by repeat' (first | (with_reducible refine below_drewN ?_ _) | go_grown)) hb8 (by first | go_size | (simp; omega))
          have hz8 := hb8.size
          have Npa : Own5 w8 w.heap.size (.int .i64 d) (.int .i64 c0) (.int .i64 c1) (.int .i64 c2) (.int .i64 c3) := Own5.below (by constructor <;> go_cell) hb8 (by first | go_size | (simp; omega))
          have Npb : Own5 w8 (w.heap.size + 1) (.int .i64 d) (.int .i64 x0) (.int .i64 x1) (.int .i64 x2) (.int .i64 x3) := Own5.below (by constructor <;> go_cell) hb8 (by first | go_size | (simp; omega))
          have Npj : Own5 w8 g (.int .i64 i) (.int .i64 i0) (.int .i64 i1) (.int .i64 i2) (.int .i64 i3) := Own5.below (by constructor <;> go_cell) hb8 (by first | go_size | (simp; omega))
          have Npk : Own5 w8 w6.heap.size (.int .i64 0) (.int .i64 0) (.int .i64 0) (.int .i64 0) (.int .i64 0) := Own5.below (by constructor <;> go_cell) hb8 (by first | go_size | (simp; omega))
          clear pa0 pa1 pa2 pa3 pa4 paf0 paf1 paf2 paf3 paf4 pb0 pb1 pb2 pb3 pb4 pbf0 pbf1 pbf2 pbf3 pbf4 pj0 pj1 pj2 pj3 pj4 pjf0 pjf1 pjf2 pjf3 pjf4 pk0 pk1 pk2 pk3 pk4 pkf0 pkf1 pkf2 pkf3 pkf4
          clear hB7
          try simp only [World.size_alloc] at hz8
          clear hb8
          obtain ⟨pa0, pa1, pa2, pa3, pa4, paf0, paf1, paf2, paf3, paf4⟩ := Npa
          obtain ⟨pb0, pb1, pb2, pb3, pb4, pbf0, pbf1, pbf2, pbf3, pbf4⟩ := Npb
          obtain ⟨pj0, pj1, pj2, pj3, pj4, pjf0, pjf1, pjf2, pjf3, pjf4⟩ := Npj
          obtain ⟨pk0, pk1, pk2, pk3, pk4, pkf0, pkf1, pkf2, pkf3, pkf4⟩ := Npk
          have pal8 : w.heap.size < w8.heap.size := World.block_lt_of_cell? _ _ pa0
          have pan8 : w.heap.size ≠ w8.heap.size := Nat.ne_of_lt pal8
          have pbl8 : (w.heap.size + 1) < w8.heap.size := World.block_lt_of_cell? _ _ pb0
          have pbn8 : (w.heap.size + 1) ≠ w8.heap.size := Nat.ne_of_lt pbl8
          have pjl8 : g < w8.heap.size := World.block_lt_of_cell? _ _ pj0
          have pjn8 : g ≠ w8.heap.size := Nat.ne_of_lt pjl8
          have pkl8 : w6.heap.size < w8.heap.size := World.block_lt_of_cell? _ _ pk0
          have pkn8 : w6.heap.size ≠ w8.heap.size := Nat.ne_of_lt pkl8
          go_wp2_with fail
          refine (HNl.out _).mono ?_
          rintro e w9 ⟨rfl, hb9⟩
          have hB9 : Below w.heap.size w w9 := bcall (by repeat' (first | (with_reducible refine below_drewN ?_ _) | go_grown)) hb9 (by first | go_size | (simp; omega))
          have hz9 := hb9.size
          have Npa : Own5 w9 w.heap.size (.int .i64 d) (.int .i64 c0) (.int .i64 c1) (.int .i64 c2) (.int .i64 c3) := Own5.below (by constructor <;> go_cell) hb9 (by first | go_size | (simp; omega))
          have Npb : Own5 w9 (w.heap.size + 1) (.int .i64 d) (.int .i64 x0) (.int .i64 x1) (.int .i64 x2) (.int .i64 x3) := Own5.below (by constructor <;> go_cell) hb9 (by first | go_size | (simp; omega))
          have Npj : Own5 w9 g (.int .i64 i) (.int .i64 i0) (.int .i64 i1) (.int .i64 i2) (.int .i64 i3) := Own5.below (by constructor <;> go_cell) hb9 (by first | go_size | (simp; omega))
          have Npk : Own5 w9 w6.heap.size (.int .i64 j) (.int .i64 j0) (.int .i64 j1) (.int .i64 j2) (.int .i64 j3) := Own5.below (by constructor <;> go_cell) hb9 (by first | go_size | (simp; omega))
          clear pa0 pa1 pa2 pa3 pa4 paf0 paf1 paf2 paf3 paf4 pb0 pb1 pb2 pb3 pb4 pbf0 pbf1 pbf2 pbf3 pbf4 pj0 pj1 pj2 pj3 pj4 pjf0 pjf1 pjf2 pjf3 pjf4 pk0 pk1 pk2 pk3 pk4 pkf0 pkf1 pkf2 pkf3 pkf4
          clear hB8
          try simp only [World.size_alloc] at hz9
          clear hb9
          obtain ⟨pa0, pa1, pa2, pa3, pa4, paf0, paf1, paf2, paf3, paf4⟩ := Npa
          obtain ⟨pb0, pb1, pb2, pb3, pb4, pbf0, pbf1, pbf2, pbf3, pbf4⟩ := Npb
          obtain ⟨pj0, pj1, pj2, pj3, pj4, pjf0, pjf1, pjf2, pjf3, pjf4⟩ := Npj
          obtain ⟨pk0, pk1, pk2, pk3, pk4, pkf0, pkf1, pkf2, pkf3, pkf4⟩ := Npk
          have pal9 : w.heap.size < w9.heap.size := World.block_lt_of_cell? _ _ pa0
          have pan9 : w.heap.size ≠ w9.heap.size := Nat.ne_of_lt pal9
          have pbl9 : (w.heap.size + 1) < w9.heap.size := World.block_lt_of_cell? _ _ pb0
          have pbn9 : (w.heap.size + 1) ≠ w9.heap.size := Nat.ne_of_lt pbl9
          have pjl9 : g < w9.heap.size := World.block_lt_of_cell? _ _ pj0
          have pjn9 : g ≠ w9.heap.size := Nat.ne_of_lt pjl9
          have pkl9 : w6.heap.size < w9.heap.size := World.block_lt_of_cell? _ _ pk0
          have pkn9 : w6.heap.size ≠ w9.heap.size := Nat.ne_of_lt pkl9
          clear HNa HNb HNl
          rcases hO.out with ⟨s, s0, s1, s2, s3, t, t0, t1, t2, t3, en, em, hle⟩ | ⟨en, em⟩
          · have HNa : Hid (∀ W, Calls Try.prog 19 #[.agg #[.int .i64 d, .int .i64 c0, .int .i64 c1, .int .i64 c2, .int .i64 c3]] W (Ret (.tuple #[.agg #[.int .i64 s, .int .i64 s0, .int .i64 s1, .int .i64 s2, .int .i64 s3], .bool true]) W)) := fun W => by have h := leave_any d c0 c1 c2 c3 W; rw [en] at h; exact h
            have HNb : Hid (∀ W, Calls Try.prog 19 #[.agg #[.int .i64 d, .int .i64 x0, .int .i64 x1, .int .i64 x2, .int .i64 x3]] W (Ret (.tuple #[.agg #[.int .i64 t, .int .i64 t0, .int .i64 t1, .int .i64 t2, .int .i64 t3], .bool true]) W)) := fun W => by have h := leave_any d x0 x1 x2 x3 W; rw [em] at h; exact h
            have HNl := Lib.hid (le_is hle)
            clear hle
            clear en em hO
            go_wp2_with fail
            refine (HNa.out _).mono ?_
            rintro e w10 ⟨rfl, hb10⟩
            have hB10 : Below w.heap.size w w10 := bcall (by repeat' (first | (with_reducible refine below_drewN ?_ _) | go_grown)) hb10 (by first | go_size | (simp; omega))
            have hz10 := hb10.size
            have Npa : Own5 w10 w.heap.size (.int .i64 d) (.int .i64 c0) (.int .i64 c1) (.int .i64 c2) (.int .i64 c3) := Own5.below (by constructor <;> go_cell) hb10 (by first | go_size | (simp; omega))
            have Npb : Own5 w10 (w.heap.size + 1) (.int .i64 d) (.int .i64 x0) (.int .i64 x1) (.int .i64 x2) (.int .i64 x3) := Own5.below (by constructor <;> go_cell) hb10 (by first | go_size | (simp; omega))
            have Npj : Own5 w10 g (.int .i64 i) (.int .i64 i0) (.int .i64 i1) (.int .i64 i2) (.int .i64 i3) := Own5.below (by constructor <;> go_cell) hb10 (by first | go_size | (simp; omega))
            have Npk : Own5 w10 w6.heap.size (.int .i64 j) (.int .i64 j0) (.int .i64 j1) (.int .i64 j2) (.int .i64 j3) := Own5.below (by constructor <;> go_cell) hb10 (by first | go_size | (simp; omega))
            clear pa0 pa1 pa2 pa3 pa4 paf0 paf1 paf2 paf3 paf4 pb0 pb1 pb2 pb3 pb4 pbf0 pbf1 pbf2 pbf3 pbf4 pj0 pj1 pj2 pj3 pj4 pjf0 pjf1 pjf2 pjf3 pjf4 pk0 pk1 pk2 pk3 pk4 pkf0 pkf1 pkf2 pkf3 pkf4
            clear hB9
            try simp only [World.size_alloc] at hz10
            clear hb10
            obtain ⟨pa0, pa1, pa2, pa3, pa4, paf0, paf1, paf2, paf3, paf4⟩ := Npa
            obtain ⟨pb0, pb1, pb2, pb3, pb4, pbf0, pbf1, pbf2, pbf3, pbf4⟩ := Npb
            obtain ⟨pj0, pj1, pj2, pj3, pj4, pjf0, pjf1, pjf2, pjf3, pjf4⟩ := Npj
            obtain ⟨pk0, pk1, pk2, pk3, pk4, pkf0, pkf1, pkf2, pkf3, pkf4⟩ := Npk
            have pal10 : w.heap.size < w10.heap.size := World.block_lt_of_cell? _ _ pa0
            have pan10 : w.heap.size ≠ w10.heap.size := Nat.ne_of_lt pal10
            have pbl10 : (w.heap.size + 1) < w10.heap.size := World.block_lt_of_cell? _ _ pb0
            have pbn10 : (w.heap.size + 1) ≠ w10.heap.size := Nat.ne_of_lt pbl10
            have pjl10 : g < w10.heap.size := World.block_lt_of_cell? _ _ pj0
            have pjn10 : g ≠ w10.heap.size := Nat.ne_of_lt pjl10
            have pkl10 : w6.heap.size < w10.heap.size := World.block_lt_of_cell? _ _ pk0
            have pkn10 : w6.heap.size ≠ w10.heap.size := Nat.ne_of_lt pkl10
            go_wp2_with fail
            refine (HNb.out _).mono ?_
            rintro e w11 ⟨rfl, hb11⟩
            have hB11 : Below w.heap.size w w11 := bcall (by repeat' (first | (with_reducible refine below_drewN ?_ _) | go_grown)) hb11 (by first | go_size | (simp; omega))
            have hz11 := hb11.size
            have Npa : Own5 w11 w.heap.size (.int .i64 d) (.int .i64 c0) (.int .i64 c1) (.int .i64 c2) (.int .i64 c3) := Own5.below (by constructor <;> go_cell) hb11 (by first | go_size | (simp; omega))
            have Npb : Own5 w11 (w.heap.size + 1) (.int .i64 d) (.int .i64 x0) (.int .i64 x1) (.int .i64 x2) (.int .i64 x3) := Own5.below (by constructor <;> go_cell) hb11 (by first | go_size | (simp; omega))
            have Npj : Own5 w11 g (.int .i64 s) (.int .i64 s0) (.int .i64 s1) (.int .i64 s2) (.int .i64 s3) := Own5.below (by constructor <;> go_cell) hb11 (by first | go_size | (simp; omega))
            have Npk : Own5 w11 w6.heap.size (.int .i64 j) (.int .i64 j0) (.int .i64 j1) (.int .i64 j2) (.int .i64 j3) := Own5.below (by constructor <;> go_cell) hb11 (by first | go_size | (simp; omega))
            clear pa0 pa1 pa2 pa3 pa4 paf0 paf1 paf2 paf3 paf4 pb0 pb1 pb2 pb3 pb4 pbf0 pbf1 pbf2 pbf3 pbf4 pj0 pj1 pj2 pj3 pj4 pjf0 pjf1 pjf2 pjf3 pjf4 pk0 pk1 pk2 pk3 pk4 pkf0 pkf1 pkf2 pkf3 pkf4
            clear hB10
            try simp only [World.size_alloc] at hz11
            clear hb11
            obtain ⟨pa0, pa1, pa2, pa3, pa4, paf0, paf1, paf2, paf3, paf4⟩ := Npa
            obtain ⟨pb0, pb1, pb2, pb3, pb4, pbf0, pbf1, pbf2, pbf3, pbf4⟩ := Npb
            obtain ⟨pj0, pj1, pj2, pj3, pj4, pjf0, pjf1, pjf2, pjf3, pjf4⟩ := Npj
            obtain ⟨pk0, pk1, pk2, pk3, pk4, pkf0, pkf1, pkf2, pkf3, pkf4⟩ := Npk
            have pal11 : w.heap.size < w11.heap.size := World.block_lt_of_cell? _ _ pa0
            have pan11 : w.heap.size ≠ w11.heap.size := Nat.ne_of_lt pal11
            have pbl11 : (w.heap.size + 1) < w11.heap.size := World.block_lt_of_cell? _ _ pb0
            have pbn11 : (w.heap.size + 1) ≠ w11.heap.size := Nat.ne_of_lt pbl11
            have pjl11 : g < w11.heap.size := World.block_lt_of_cell? _ _ pj0
            have pjn11 : g ≠ w11.heap.size := Nat.ne_of_lt pjl11
            have pkl11 : w6.heap.size < w11.heap.size := World.block_lt_of_cell? _ _ pk0
            have pkn11 : w6.heap.size ≠ w11.heap.size := Nat.ne_of_lt pkl11
            go_wp2_with fail
            refine (HNl.out _).mono ?_
            rintro e w12 ⟨rfl, hb12⟩
            have hB12 : Below w.heap.size w w12 := bcall (by repeat' (first | (with_reducible refine below_drewN ?_ _) | go_grown)) hb12 (by first | go_size | (simp; omega))
            have hz12 := hb12.size
            have Npa : Own5 w12 w.heap.size (.int .i64 d) (.int .i64 c0) (.int .i64 c1) (.int .i64 c2) (.int .i64 c3) := Own5.below (by constructor <;> go_cell) hb12 (by first | go_size | (simp; omega))
            have Npb : Own5 w12 (w.heap.size + 1) (.int .i64 d) (.int .i64 x0) (.int .i64 x1) (.int .i64 x2) (.int .i64 x3) := Own5.below (by constructor <;> go_cell) hb12 (by first | go_size | (simp; omega))
            have Npj : Own5 w12 g (.int .i64 s) (.int .i64 s0) (.int .i64 s1) (.int .i64 s2) (.int .i64 s3) := Own5.below (by constructor <;> go_cell) hb12 (by first | go_size | (simp; omega))
            have Npk : Own5 w12 w6.heap.size (.int .i64 t) (.int .i64 t0) (.int .i64 t1) (.int .i64 t2) (.int .i64 t3) := Own5.below (by constructor <;> go_cell) hb12 (by first | go_size | (simp; omega))
            clear pa0 pa1 pa2 pa3 pa4 paf0 paf1 paf2 paf3 paf4 pb0 pb1 pb2 pb3 pb4 pbf0 pbf1 pbf2 pbf3 pbf4 pj0 pj1 pj2 pj3 pj4 pjf0 pjf1 pjf2 pjf3 pjf4 pk0 pk1 pk2 pk3 pk4 pkf0 pkf1 pkf2 pkf3 pkf4
            clear hB11
            try simp only [World.size_alloc] at hz12
            clear hb12
            obtain ⟨pa0, pa1, pa2, pa3, pa4, paf0, paf1, paf2, paf3, paf4⟩ := Npa
            obtain ⟨pb0, pb1, pb2, pb3, pb4, pbf0, pbf1, pbf2, pbf3, pbf4⟩ := Npb
            obtain ⟨pj0, pj1, pj2, pj3, pj4, pjf0, pjf1, pjf2, pjf3, pjf4⟩ := Npj
            obtain ⟨pk0, pk1, pk2, pk3, pk4, pkf0, pkf1, pkf2, pkf3, pkf4⟩ := Npk
            have pal12 : w.heap.size < w12.heap.size := World.block_lt_of_cell? _ _ pa0
            have pan12 : w.heap.size ≠ w12.heap.size := Nat.ne_of_lt pal12
            have pbl12 : (w.heap.size + 1) < w12.heap.size := World.block_lt_of_cell? _ _ pb0
            have pbn12 : (w.heap.size + 1) ≠ w12.heap.size := Nat.ne_of_lt pbl12
            have pjl12 : g < w12.heap.size := World.block_lt_of_cell? _ _ pj0
            have pjn12 : g ≠ w12.heap.size := Nat.ne_of_lt pjl12
            have pkl12 : w6.heap.size < w12.heap.size := World.block_lt_of_cell? _ _ pk0
            have pkn12 : w6.heap.size ≠ w12.heap.size := Nat.ne_of_lt pkl12
            go_wp2
            go_returns
            exact ⟨ret_bool rfl, by repeat' (first | (with_reducible refine below_drewN ?_ _) | go_grown)⟩
          · have HNa : Hid (∀ W, Calls Try.prog 19 #[.agg #[.int .i64 d, .int .i64 c0, .int .i64 c1, .int .i64 c2, .int .i64 c3]] W (Ret (.tuple #[.agg #[.int .i64 0, .int .i64 0, .int .i64 0, .int .i64 0, .int .i64 0], .bool false]) W)) := fun W => by have h := leave_any d c0 c1 c2 c3 W; rw [en] at h; exact h
            have HNb : Hid (∀ W, Calls Try.prog 19 #[.agg #[.int .i64 d, .int .i64 x0, .int .i64 x1, .int .i64 x2, .int .i64 x3]] W (Ret (.tuple #[.agg #[.int .i64 0, .int .i64 0, .int .i64 0, .int .i64 0, .int .i64 0], .bool false]) W)) := fun W => by have h := leave_any d x0 x1 x2 x3 W; rw [em] at h; exact h
            clear en em hO
            go_wp2_with fail
            refine (HNa.out _).mono ?_
            rintro e w10 ⟨rfl, hb10⟩
            have hB10 : Below w.heap.size w w10 := bcall (by repeat' (first | (with_reducible refine below_drewN ?_ _) | go_grown)) hb10 (by first | go_size | (simp; omega))
            have hz10 := hb10.size
            have Npa : Own5 w10 w.heap.size (.int .i64 d) (.int .i64 c0) (.int .i64 c1) (.int .i64 c2) (.int .i64 c3) := Own5.below (by constructor <;> go_cell) hb10 (by first | go_size | (simp; omega))
            have Npb : Own5 w10 (w.heap.size + 1) (.int .i64 d) (.int .i64 x0) (.int .i64 x1) (.int .i64 x2) (.int .i64 x3) := Own5.below (by constructor <;> go_cell) hb10 (by first | go_size | (simp; omega))
            have Npj : Own5 w10 g (.int .i64 i) (.int .i64 i0) (.int .i64 i1) (.int .i64 i2) (.int .i64 i3) := Own5.below (by constructor <;> go_cell) hb10 (by first | go_size | (simp; omega))
            have Npk : Own5 w10 w6.heap.size (.int .i64 j) (.int .i64 j0) (.int .i64 j1) (.int .i64 j2) (.int .i64 j3) := Own5.below (by constructor <;> go_cell) hb10 (by first | go_size | (simp; omega))
            clear pa0 pa1 pa2 pa3 pa4 paf0 paf1 paf2 paf3 paf4 pb0 pb1 pb2 pb3 pb4 pbf0 pbf1 pbf2 pbf3 pbf4 pj0 pj1 pj2 pj3 pj4 pjf0 pjf1 pjf2 pjf3 pjf4 pk0 pk1 pk2 pk3 pk4 pkf0 pkf1 pkf2 pkf3 pkf4
            clear hB9
            try simp only [World.size_alloc] at hz10
            clear hb10
            obtain ⟨pa0, pa1, pa2, pa3, pa4, paf0, paf1, paf2, paf3, paf4⟩ := Npa
            obtain ⟨pb0, pb1, pb2, pb3, pb4, pbf0, pbf1, pbf2, pbf3, pbf4⟩ := Npb
            obtain ⟨pj0, pj1, pj2, pj3, pj4, pjf0, pjf1, pjf2, pjf3, pjf4⟩ := Npj
            obtain ⟨pk0, pk1, pk2, pk3, pk4, pkf0, pkf1, pkf2, pkf3, pkf4⟩ := Npk
            have pal10 : w.heap.size < w10.heap.size := World.block_lt_of_cell? _ _ pa0
            have pan10 : w.heap.size ≠ w10.heap.size := Nat.ne_of_lt pal10
            have pbl10 : (w.heap.size + 1) < w10.heap.size := World.block_lt_of_cell? _ _ pb0
            have pbn10 : (w.heap.size + 1) ≠ w10.heap.size := Nat.ne_of_lt pbl10
            have pjl10 : g < w10.heap.size := World.block_lt_of_cell? _ _ pj0
            have pjn10 : g ≠ w10.heap.size := Nat.ne_of_lt pjl10
            have pkl10 : w6.heap.size < w10.heap.size := World.block_lt_of_cell? _ _ pk0
            have pkn10 : w6.heap.size ≠ w10.heap.size := Nat.ne_of_lt pkl10
            go_wp2_with fail
            refine (HNb.out _).mono ?_
            rintro e w11 ⟨rfl, hb11⟩
            have hB11 : Below w.heap.size w w11 := bcall (by repeat' (first | (with_reducible refine below_drewN ?_ _) | go_grown)) hb11 (by first | go_size | (simp; omega))
            have hz11 := hb11.size
            have Npa : Own5 w11 w.heap.size (.int .i64 d) (.int .i64 c0) (.int .i64 c1) (.int .i64 c2) (.int .i64 c3) := Own5.below (by constructor <;> go_cell) hb11 (by first | go_size | (simp; omega))
            have Npb : Own5 w11 (w.heap.size + 1) (.int .i64 d) (.int .i64 x0) (.int .i64 x1) (.int .i64 x2) (.int .i64 x3) := Own5.below (by constructor <;> go_cell) hb11 (by first | go_size | (simp; omega))
            have Npj : Own5 w11 g (.int .i64 0) (.int .i64 0) (.int .i64 0) (.int .i64 0) (.int .i64 0) := Own5.below (by constructor <;> go_cell) hb11 (by first | go_size | (simp; omega))
            have Npk : Own5 w11 w6.heap.size (.int .i64 j) (.int .i64 j0) (.int .i64 j1) (.int .i64 j2) (.int .i64 j3) := Own5.below (by constructor <;> go_cell) hb11 (by first | go_size | (simp; omega))
            clear pa0 pa1 pa2 pa3 pa4 paf0 paf1 paf2 paf3 paf4 pb0 pb1 pb2 pb3 pb4 pbf0 pbf1 pbf2 pbf3 pbf4 pj0 pj1 pj2 pj3 pj4 pjf0 pjf1 pjf2 pjf3 pjf4 pk0 pk1 pk2 pk3 pk4 pkf0 pkf1 pkf2 pkf3 pkf4
            clear hB10
            try simp only [World.size_alloc] at hz11
            clear hb11
            obtain ⟨pa0, pa1, pa2, pa3, pa4, paf0, paf1, paf2, paf3, paf4⟩ := Npa
            obtain ⟨pb0, pb1, pb2, pb3, pb4, pbf0, pbf1, pbf2, pbf3, pbf4⟩ := Npb
            obtain ⟨pj0, pj1, pj2, pj3, pj4, pjf0, pjf1, pjf2, pjf3, pjf4⟩ := Npj
            obtain ⟨pk0, pk1, pk2, pk3, pk4, pkf0, pkf1, pkf2, pkf3, pkf4⟩ := Npk
            have pal11 : w.heap.size < w11.heap.size := World.block_lt_of_cell? _ _ pa0
            have pan11 : w.heap.size ≠ w11.heap.size := Nat.ne_of_lt pal11
            have pbl11 : (w.heap.size + 1) < w11.heap.size := World.block_lt_of_cell? _ _ pb0
            have pbn11 : (w.heap.size + 1) ≠ w11.heap.size := Nat.ne_of_lt pbl11
            have pjl11 : g < w11.heap.size := World.block_lt_of_cell? _ _ pj0
            have pjn11 : g ≠ w11.heap.size := Nat.ne_of_lt pjl11
            have pkl11 : w6.heap.size < w11.heap.size := World.block_lt_of_cell? _ _ pk0
            have pkn11 : w6.heap.size ≠ w11.heap.size := Nat.ne_of_lt pkl11
            go_wp2
            go_returns
            exact ⟨ret_bool rfl, by repeat' (first | (with_reducible refine below_drewN ?_ _) | go_grown)⟩
        · have HNa : Hid (∀ W, Calls Try.prog 17 #[.agg #[.int .i64 d, .int .i64 c0, .int .i64 c1, .int .i64 c2, .int .i64 c3]] W (Ret (.tuple #[.agg #[.int .i64 0, .int .i64 0, .int .i64 0, .int .i64 0, .int .i64 0], .bool false]) W)) := fun W => by have h := enter_any d c0 c1 c2 c3 W; rw [en] at h; exact h
          have HNb : Hid (∀ W, Calls Try.prog 17 #[.agg #[.int .i64 d, .int .i64 x0, .int .i64 x1, .int .i64 x2, .int .i64 x3]] W (Ret (.tuple #[.agg #[.int .i64 0, .int .i64 0, .int .i64 0, .int .i64 0, .int .i64 0], .bool false]) W)) := fun W => by have h := enter_any d x0 x1 x2 x3 W; rw [em] at h; exact h
          clear en em hI
          go_wp2_with fail
          refine (HNa.out _).mono ?_
          rintro e w7 ⟨rfl, hb7⟩
          have hB7 : Below w.heap.size w w7 := bcall (by repeat' (first | (with_reducible refine below_drewN ?_ _) | go_grown)) hb7 (by first | go_size | (simp; omega))
          have hz7 := hb7.size
          have Npa : Own5 w7 w.heap.size (.int .i64 d) (.int .i64 c0) (.int .i64 c1) (.int .i64 c2) (.int .i64 c3) := Own5.below (by constructor <;> go_cell) hb7 (by first | go_size | (simp; omega))
          have Npb : Own5 w7 (w.heap.size + 1) (.int .i64 d) (.int .i64 x0) (.int .i64 x1) (.int .i64 x2) (.int .i64 x3) := Own5.below (by constructor <;> go_cell) hb7 (by first | go_size | (simp; omega))
          have Npj : Own5 w7 g (.int .i64 d) (.int .i64 p0) (.int .i64 p1) (.int .i64 p2) (.int .i64 p3) := Own5.below (by constructor <;> go_cell) hb7 (by first | go_size | (simp; omega))
          have Npk : Own5 w7 w6.heap.size (.int .i64 0) (.int .i64 0) (.int .i64 0) (.int .i64 0) (.int .i64 0) := Own5.below (by constructor <;> go_cell) hb7 (by first | go_size | (simp; omega))
          clear pa0 pa1 pa2 pa3 pa4 paf0 paf1 paf2 paf3 paf4 pb0 pb1 pb2 pb3 pb4 pbf0 pbf1 pbf2 pbf3 pbf4 pj0 pj1 pj2 pj3 pj4 pjf0 pjf1 pjf2 pjf3 pjf4
          clear hB6
          try simp only [World.size_alloc] at hz7
          clear hb7
          obtain ⟨pa0, pa1, pa2, pa3, pa4, paf0, paf1, paf2, paf3, paf4⟩ := Npa
          obtain ⟨pb0, pb1, pb2, pb3, pb4, pbf0, pbf1, pbf2, pbf3, pbf4⟩ := Npb
          obtain ⟨pj0, pj1, pj2, pj3, pj4, pjf0, pjf1, pjf2, pjf3, pjf4⟩ := Npj
          obtain ⟨pk0, pk1, pk2, pk3, pk4, pkf0, pkf1, pkf2, pkf3, pkf4⟩ := Npk
          have pal7 : w.heap.size < w7.heap.size := World.block_lt_of_cell? _ _ pa0
          have pan7 : w.heap.size ≠ w7.heap.size := Nat.ne_of_lt pal7
          have pbl7 : (w.heap.size + 1) < w7.heap.size := World.block_lt_of_cell? _ _ pb0
          have pbn7 : (w.heap.size + 1) ≠ w7.heap.size := Nat.ne_of_lt pbl7
          have pjl7 : g < w7.heap.size := World.block_lt_of_cell? _ _ pj0
          have pjn7 : g ≠ w7.heap.size := Nat.ne_of_lt pjl7
          have pkl7 : w6.heap.size < w7.heap.size := World.block_lt_of_cell? _ _ pk0
          have pkn7 : w6.heap.size ≠ w7.heap.size := Nat.ne_of_lt pkl7
          go_wp2_with fail
          refine (HNb.out _).mono ?_
          rintro e w8 ⟨rfl, hb8⟩
          have hB8 : Below w.heap.size w w8 := bcall (by repeat' (first | (with_reducible refine below_drewN ?_ _) | go_grown)) hb8 (by first | go_size | (simp; omega))
          have hz8 := hb8.size
          have Npa : Own5 w8 w.heap.size (.int .i64 d) (.int .i64 c0) (.int .i64 c1) (.int .i64 c2) (.int .i64 c3) := Own5.below (by constructor <;> go_cell) hb8 (by first | go_size | (simp; omega))
          have Npb : Own5 w8 (w.heap.size + 1) (.int .i64 d) (.int .i64 x0) (.int .i64 x1) (.int .i64 x2) (.int .i64 x3) := Own5.below (by constructor <;> go_cell) hb8 (by first | go_size | (simp; omega))
          have Npj : Own5 w8 g (.int .i64 0) (.int .i64 0) (.int .i64 0) (.int .i64 0) (.int .i64 0) := Own5.below (by constructor <;> go_cell) hb8 (by first | go_size | (simp; omega))
          have Npk : Own5 w8 w6.heap.size (.int .i64 0) (.int .i64 0) (.int .i64 0) (.int .i64 0) (.int .i64 0) := Own5.below (by constructor <;> go_cell) hb8 (by first | go_size | (simp; omega))
          clear pa0 pa1 pa2 pa3 pa4 paf0 paf1 paf2 paf3 paf4 pb0 pb1 pb2 pb3 pb4 pbf0 pbf1 pbf2 pbf3 pbf4 pj0 pj1 pj2 pj3 pj4 pjf0 pjf1 pjf2 pjf3 pjf4 pk0 pk1 pk2 pk3 pk4 pkf0 pkf1 pkf2 pkf3 pkf4
          clear hB7
          try simp only [World.size_alloc] at hz8
          clear hb8
          obtain ⟨pa0, pa1, pa2, pa3, pa4, paf0, paf1, paf2, paf3, paf4⟩ := Npa
          obtain ⟨pb0, pb1, pb2, pb3, pb4, pbf0, pbf1, pbf2, pbf3, pbf4⟩ := Npb
          obtain ⟨pj0, pj1, pj2, pj3, pj4, pjf0, pjf1, pjf2, pjf3, pjf4⟩ := Npj
          obtain ⟨pk0, pk1, pk2, pk3, pk4, pkf0, pkf1, pkf2, pkf3, pkf4⟩ := Npk
          have pal8 : w.heap.size < w8.heap.size := World.block_lt_of_cell? _ _ pa0
          have pan8 : w.heap.size ≠ w8.heap.size := Nat.ne_of_lt pal8
          have pbl8 : (w.heap.size + 1) < w8.heap.size := World.block_lt_of_cell? _ _ pb0
          have pbn8 : (w.heap.size + 1) ≠ w8.heap.size := Nat.ne_of_lt pbl8
          have pjl8 : g < w8.heap.size := World.block_lt_of_cell? _ _ pj0
          have pjn8 : g ≠ w8.heap.size := Nat.ne_of_lt pjl8
          have pkl8 : w6.heap.size < w8.heap.size := World.block_lt_of_cell? _ _ pk0
          have pkn8 : w6.heap.size ≠ w8.heap.size := Nat.ne_of_lt pkl8
          clear HNa HNb
          rcases hO.out with ⟨s, s0, s1, s2, s3, t, t0, t1, t2, t3, en, em, hle⟩ | ⟨en, em⟩
          · have HNa : Hid (∀ W, Calls Try.prog 19 #[.agg #[.int .i64 d, .int .i64 c0, .int .i64 c1, .int .i64 c2, .int .i64 c3]] W (Ret (.tuple #[.agg #[.int .i64 s, .int .i64 s0, .int .i64 s1, .int .i64 s2, .int .i64 s3], .bool true]) W)) := fun W => by have h := leave_any d c0 c1 c2 c3 W; rw [en] at h; exact h
            have HNb : Hid (∀ W, Calls Try.prog 19 #[.agg #[.int .i64 d, .int .i64 x0, .int .i64 x1, .int .i64 x2, .int .i64 x3]] W (Ret (.tuple #[.agg #[.int .i64 t, .int .i64 t0, .int .i64 t1, .int .i64 t2, .int .i64 t3], .bool true]) W)) := fun W => by have h := leave_any d x0 x1 x2 x3 W; rw [em] at h; exact h
            have HNl := Lib.hid (le_is hle)
            clear hle
            clear en em hO
            go_wp2_with fail
            refine (HNa.out _).mono ?_
            rintro e w9 ⟨rfl, hb9⟩
            have hB9 : Below w.heap.size w w9 := bcall (by repeat' (first | (with_reducible refine below_drewN ?_ _) | go_grown)) hb9 (by first | go_size | (simp; omega))
            have hz9 := hb9.size
            have Npa : Own5 w9 w.heap.size (.int .i64 d) (.int .i64 c0) (.int .i64 c1) (.int .i64 c2) (.int .i64 c3) := Own5.below (by constructor <;> go_cell) hb9 (by first | go_size | (simp; omega))
            have Npb : Own5 w9 (w.heap.size + 1) (.int .i64 d) (.int .i64 x0) (.int .i64 x1) (.int .i64 x2) (.int .i64 x3) := Own5.below (by constructor <;> go_cell) hb9 (by first | go_size | (simp; omega))
            have Npj : Own5 w9 g (.int .i64 0) (.int .i64 0) (.int .i64 0) (.int .i64 0) (.int .i64 0) := Own5.below (by constructor <;> go_cell) hb9 (by first | go_size | (simp; omega))
            have Npk : Own5 w9 w6.heap.size (.int .i64 0) (.int .i64 0) (.int .i64 0) (.int .i64 0) (.int .i64 0) := Own5.below (by constructor <;> go_cell) hb9 (by first | go_size | (simp; omega))
            clear pa0 pa1 pa2 pa3 pa4 paf0 paf1 paf2 paf3 paf4 pb0 pb1 pb2 pb3 pb4 pbf0 pbf1 pbf2 pbf3 pbf4 pj0 pj1 pj2 pj3 pj4 pjf0 pjf1 pjf2 pjf3 pjf4 pk0 pk1 pk2 pk3 pk4 pkf0 pkf1 pkf2 pkf3 pkf4
            clear hB8
            try simp only [World.size_alloc] at hz9
            clear hb9
            obtain ⟨pa0, pa1, pa2, pa3, pa4, paf0, paf1, paf2, paf3, paf4⟩ := Npa
            obtain ⟨pb0, pb1, pb2, pb3, pb4, pbf0, pbf1, pbf2, pbf3, pbf4⟩ := Npb
            obtain ⟨pj0, pj1, pj2, pj3, pj4, pjf0, pjf1, pjf2, pjf3, pjf4⟩ := Npj
            obtain ⟨pk0, pk1, pk2, pk3, pk4, pkf0, pkf1, pkf2, pkf3, pkf4⟩ := Npk
            have pal9 : w.heap.size < w9.heap.size := World.block_lt_of_cell? _ _ pa0
            have pan9 : w.heap.size ≠ w9.heap.size := Nat.ne_of_lt pal9
            have pbl9 : (w.heap.size + 1) < w9.heap.size := World.block_lt_of_cell? _ _ pb0
            have pbn9 : (w.heap.size + 1) ≠ w9.heap.size := Nat.ne_of_lt pbl9
            have pjl9 : g < w9.heap.size := World.block_lt_of_cell? _ _ pj0
            have pjn9 : g ≠ w9.heap.size := Nat.ne_of_lt pjl9
            have pkl9 : w6.heap.size < w9.heap.size := World.block_lt_of_cell? _ _ pk0
            have pkn9 : w6.heap.size ≠ w9.heap.size := Nat.ne_of_lt pkl9
            go_wp2_with fail
            refine (HNb.out _).mono ?_
            rintro e w10 ⟨rfl, hb10⟩
            have hB10 : Below w.heap.size w w10 := bcall (by repeat' (first | (with_reducible refine below_drewN ?_ _) | go_grown)) hb10 (by first | go_size | (simp; omega))
            have hz10 := hb10.size
            have Npa : Own5 w10 w.heap.size (.int .i64 d) (.int .i64 c0) (.int .i64 c1) (.int .i64 c2) (.int .i64 c3) := Own5.below (by constructor <;> go_cell) hb10 (by first | go_size | (simp; omega))
            have Npb : Own5 w10 (w.heap.size + 1) (.int .i64 d) (.int .i64 x0) (.int .i64 x1) (.int .i64 x2) (.int .i64 x3) := Own5.below (by constructor <;> go_cell) hb10 (by first | go_size | (simp; omega))
            have Npj : Own5 w10 g (.int .i64 s) (.int .i64 s0) (.int .i64 s1) (.int .i64 s2) (.int .i64 s3) := Own5.below (by constructor <;> go_cell) hb10 (by first | go_size | (simp; omega))
            have Npk : Own5 w10 w6.heap.size (.int .i64 0) (.int .i64 0) (.int .i64 0) (.int .i64 0) (.int .i64 0) := Own5.below (by constructor <;> go_cell) hb10 (by first | go_size | (simp; omega))
            clear pa0 pa1 pa2 pa3 pa4 paf0 paf1 paf2 paf3 paf4 pb0 pb1 pb2 pb3 pb4 pbf0 pbf1 pbf2 pbf3 pbf4 pj0 pj1 pj2 pj3 pj4 pjf0 pjf1 pjf2 pjf3 pjf4 pk0 pk1 pk2 pk3 pk4 pkf0 pkf1 pkf2 pkf3 pkf4
            clear hB9
            try simp only [World.size_alloc] at hz10
            clear hb10
            obtain ⟨pa0, pa1, pa2, pa3, pa4, paf0, paf1, paf2, paf3, paf4⟩ := Npa
            obtain ⟨pb0, pb1, pb2, pb3, pb4, pbf0, pbf1, pbf2, pbf3, pbf4⟩ := Npb
            obtain ⟨pj0, pj1, pj2, pj3, pj4, pjf0, pjf1, pjf2, pjf3, pjf4⟩ := Npj
            obtain ⟨pk0, pk1, pk2, pk3, pk4, pkf0, pkf1, pkf2, pkf3, pkf4⟩ := Npk
            have pal10 : w.heap.size < w10.heap.size := World.block_lt_of_cell? _ _ pa0
            have pan10 : w.heap.size ≠ w10.heap.size := Nat.ne_of_lt pal10
            have pbl10 : (w.heap.size + 1) < w10.heap.size := World.block_lt_of_cell? _ _ pb0
            have pbn10 : (w.heap.size + 1) ≠ w10.heap.size := Nat.ne_of_lt pbl10
            have pjl10 : g < w10.heap.size := World.block_lt_of_cell? _ _ pj0
            have pjn10 : g ≠ w10.heap.size := Nat.ne_of_lt pjl10
            have pkl10 : w6.heap.size < w10.heap.size := World.block_lt_of_cell? _ _ pk0
            have pkn10 : w6.heap.size ≠ w10.heap.size := Nat.ne_of_lt pkl10
            go_wp2_with fail
            refine (HNl.out _).mono ?_
            rintro e w11 ⟨rfl, hb11⟩
            have hB11 : Below w.heap.size w w11 := bcall (by repeat' (first | (with_reducible refine below_drewN ?_ _) | go_grown)) hb11 (by first | go_size | (simp; omega))
            have hz11 := hb11.size
            have Npa : Own5 w11 w.heap.size (.int .i64 d) (.int .i64 c0) (.int .i64 c1) (.int .i64 c2) (.int .i64 c3) := Own5.below (by constructor <;> go_cell) hb11 (by first | go_size | (simp; omega))
            have Npb : Own5 w11 (w.heap.size + 1) (.int .i64 d) (.int .i64 x0) (.int .i64 x1) (.int .i64 x2) (.int .i64 x3) := Own5.below (by constructor <;> go_cell) hb11 (by first | go_size | (simp; omega))
            have Npj : Own5 w11 g (.int .i64 s) (.int .i64 s0) (.int .i64 s1) (.int .i64 s2) (.int .i64 s3) := Own5.below (by constructor <;> go_cell) hb11 (by first | go_size | (simp; omega))
            have Npk : Own5 w11 w6.heap.size (.int .i64 t) (.int .i64 t0) (.int .i64 t1) (.int .i64 t2) (.int .i64 t3) := Own5.below (by constructor <;> go_cell) hb11 (by first | go_size | (simp; omega))
            clear pa0 pa1 pa2 pa3 pa4 paf0 paf1 paf2 paf3 paf4 pb0 pb1 pb2 pb3 pb4 pbf0 pbf1 pbf2 pbf3 pbf4 pj0 pj1 pj2 pj3 pj4 pjf0 pjf1 pjf2 pjf3 pjf4 pk0 pk1 pk2 pk3 pk4 pkf0 pkf1 pkf2 pkf3 pkf4
            clear hB10
            try simp only [World.size_alloc] at hz11
            clear hb11
            obtain ⟨pa0, pa1, pa2, pa3, pa4, paf0, paf1, paf2, paf3, paf4⟩ := Npa
            obtain ⟨pb0, pb1, pb2, pb3, pb4, pbf0, pbf1, pbf2, pbf3, pbf4⟩ := Npb
            obtain ⟨pj0, pj1, pj2, pj3, pj4, pjf0, pjf1, pjf2, pjf3, pjf4⟩ := Npj
            obtain ⟨pk0, pk1, pk2, pk3, pk4, pkf0, pkf1, pkf2, pkf3, pkf4⟩ := Npk
            have pal11 : w.heap.size < w11.heap.size := World.block_lt_of_cell? _ _ pa0
            have pan11 : w.heap.size ≠ w11.heap.size := Nat.ne_of_lt pal11
            have pbl11 : (w.heap.size + 1) < w11.heap.size := World.block_lt_of_cell? _ _ pb0
            have pbn11 : (w.heap.size + 1) ≠ w11.heap.size := Nat.ne_of_lt pbl11
            have pjl11 : g < w11.heap.size := World.block_lt_of_cell? _ _ pj0
            have pjn11 : g ≠ w11.heap.size := Nat.ne_of_lt pjl11
            have pkl11 : w6.heap.size < w11.heap.size := World.block_lt_of_cell? _ _ pk0
            have pkn11 : w6.heap.size ≠ w11.heap.size := Nat.ne_of_lt pkl11
            go_wp2
            go_returns
            exact ⟨ret_bool rfl, by repeat' (first | (with_reducible refine below_drewN ?_ _) | go_grown)⟩
          · have HNa : Hid (∀ W, Calls Try.prog 19 #[.agg #[.int .i64 d, .int .i64 c0, .int .i64 c1, .int .i64 c2, .int .i64 c3]] W (Ret (.tuple #[.agg #[.int .i64 0, .int .i64 0, .int .i64 0, .int .i64 0, .int .i64 0], .bool false]) W)) := fun W => by have h := leave_any d c0 c1 c2 c3 W; rw [en] at h; exact h
            have HNb : Hid (∀ W, Calls Try.prog 19 #[.agg #[.int .i64 d, .int .i64 x0, .int .i64 x1, .int .i64 x2, .int .i64 x3]] W (Ret (.tuple #[.agg #[.int .i64 0, .int .i64 0, .int .i64 0, .int .i64 0, .int .i64 0], .bool false]) W)) := fun W => by have h := leave_any d x0 x1 x2 x3 W; rw [em] at h; exact h
            clear en em hO
            go_wp2_with fail
            refine (HNa.out _).mono ?_
            rintro e w9 ⟨rfl, hb9⟩
            have hB9 : Below w.heap.size w w9 := bcall (by repeat' (first | (with_reducible refine below_drewN ?_ _) | go_grown)) hb9 (by first | go_size | (simp; omega))
            have hz9 := hb9.size
            have Npa : Own5 w9 w.heap.size (.int .i64 d) (.int .i64 c0) (.int .i64 c1) (.int .i64 c2) (.int .i64 c3) := Own5.below (by constructor <;> go_cell) hb9 (by first | go_size | (simp; omega))
            have Npb : Own5 w9 (w.heap.size + 1) (.int .i64 d) (.int .i64 x0) (.int .i64 x1) (.int .i64 x2) (.int .i64 x3) := Own5.below (by constructor <;> go_cell) hb9 (by first | go_size | (simp; omega))
            have Npj : Own5 w9 g (.int .i64 0) (.int .i64 0) (.int .i64 0) (.int .i64 0) (.int .i64 0) := Own5.below (by constructor <;> go_cell) hb9 (by first | go_size | (simp; omega))
            have Npk : Own5 w9 w6.heap.size (.int .i64 0) (.int .i64 0) (.int .i64 0) (.int .i64 0) (.int .i64 0) := Own5.below (by constructor <;> go_cell) hb9 (by first | go_size | (simp; omega))
            clear pa0 pa1 pa2 pa3 pa4 paf0 paf1 paf2 paf3 paf4 pb0 pb1 pb2 pb3 pb4 pbf0 pbf1 pbf2 pbf3 pbf4 pj0 pj1 pj2 pj3 pj4 pjf0 pjf1 pjf2 pjf3 pjf4 pk0 pk1 pk2 pk3 pk4 pkf0 pkf1 pkf2 pkf3 pkf4
            clear hB8
            try simp only [World.size_alloc] at hz9
            clear hb9
            obtain ⟨pa0, pa1, pa2, pa3, pa4, paf0, paf1, paf2, paf3, paf4⟩ := Npa
            obtain ⟨pb0, pb1, pb2, pb3, pb4, pbf0, pbf1, pbf2, pbf3, pbf4⟩ := Npb
            obtain ⟨pj0, pj1, pj2, pj3, pj4, pjf0, pjf1, pjf2, pjf3, pjf4⟩ := Npj
            obtain ⟨pk0, pk1, pk2, pk3, pk4, pkf0, pkf1, pkf2, pkf3, pkf4⟩ := Npk
            have pal9 : w.heap.size < w9.heap.size := World.block_lt_of_cell? _ _ pa0
            have pan9 : w.heap.size ≠ w9.heap.size := Nat.ne_of_lt pal9
            have pbl9 : (w.heap.size + 1) < w9.heap.size := World.block_lt_of_cell? _ _ pb0
            have pbn9 : (w.heap.size + 1) ≠ w9.heap.size := Nat.ne_of_lt pbl9
            have pjl9 : g < w9.heap.size := World.block_lt_of_cell? _ _ pj0
            have pjn9 : g ≠ w9.heap.size := Nat.ne_of_lt pjl9
            have pkl9 : w6.heap.size < w9.heap.size := World.block_lt_of_cell? _ _ pk0
            have pkn9 : w6.heap.size ≠ w9.heap.size := Nat.ne_of_lt pkl9
            go_wp2_with fail
            refine (HNb.out _).mono ?_
            rintro e w10 ⟨rfl, hb10⟩
            have hB10 : Below w.heap.size w w10 := bcall (by repeat' (first | (with_reducible refine below_drewN ?_ _) | go_grown)) hb10 (by first | go_size | (simp; omega))
            have hz10 := hb10.size
            have Npa : Own5 w10 w.heap.size (.int .i64 d) (.int .i64 c0) (.int .i64 c1) (.int .i64 c2) (.int .i64 c3) := Own5.below (by constructor <;> go_cell) hb10 (by first | go_size | (simp; omega))
            have Npb : Own5 w10 (w.heap.size + 1) (.int .i64 d) (.int .i64 x0) (.int .i64 x1) (.int .i64 x2) (.int .i64 x3) := Own5.below (by constructor <;> go_cell) hb10 (by first | go_size | (simp; omega))
            have Npj : Own5 w10 g (.int .i64 0) (.int .i64 0) (.int .i64 0) (.int .i64 0) (.int .i64 0) := Own5.below (by constructor <;> go_cell) hb10 (by first | go_size | (simp; omega))
            have Npk : Own5 w10 w6.heap.size (.int .i64 0) (.int .i64 0) (.int .i64 0) (.int .i64 0) (.int .i64 0) := Own5.below (by constructor <;> go_cell) hb10 (by first | go_size | (simp; omega))
            clear pa0 pa1 pa2 pa3 pa4 paf0 paf1 paf2 paf3 paf4 pb0 pb1 pb2 pb3 pb4 pbf0 pbf1 pbf2 pbf3 pbf4 pj0 pj1 pj2 pj3 pj4 pjf0 pjf1 pjf2 pjf3 pjf4 pk0 pk1 pk2 pk3 pk4 pkf0 pkf1 pkf2 pkf3 pkf4
            clear hB9
            try simp only [World.size_alloc] at hz10
            clear hb10
            obtain ⟨pa0, pa1, pa2, pa3, pa4, paf0, paf1, paf2, paf3, paf4⟩ := Npa
            obtain ⟨pb0, pb1, pb2, pb3, pb4, pbf0, pbf1, pbf2, pbf3, pbf4⟩ := Npb
            obtain ⟨pj0, pj1, pj2, pj3, pj4, pjf0, pjf1, pjf2, pjf3, pjf4⟩ := Npj
            obtain ⟨pk0, pk1, pk2, pk3, pk4, pkf0, pkf1, pkf2, pkf3, pkf4⟩ := Npk
            have pal10 : w.heap.size < w10.heap.size := World.block_lt_of_cell? _ _ pa0
            have pan10 : w.heap.size ≠ w10.heap.size := Nat.ne_of_lt pal10
            have pbl10 : (w.heap.size + 1) < w10.heap.size := World.block_lt_of_cell? _ _ pb0
            have pbn10 : (w.heap.size + 1) ≠ w10.heap.size := Nat.ne_of_lt pbl10
            have pjl10 : g < w10.heap.size := World.block_lt_of_cell? _ _ pj0
            have pjn10 : g ≠ w10.heap.size := Nat.ne_of_lt pjl10
            have pkl10 : w6.heap.size < w10.heap.size := World.block_lt_of_cell? _ _ pk0
            have pkn10 : w6.heap.size ≠ w10.heap.size := Nat.ne_of_lt pkl10
            go_wp2
            go_returns
            exact ⟨ret_bool rfl, by repeat' (first | (with_reducible refine below_drewN ?_ _) | go_grown)⟩
      · have HNa : Hid (∀ W, Calls Try.prog 20 #[.agg #[.int .i64 d, .int .i64 c0, .int .i64 c1, .int .i64 c2, .int .i64 c3]] W (Ret (.tuple #[.agg #[.int .i64 0, .int .i64 0, .int .i64 0, .int .i64 0, .int .i64 0], .bool false]) W)) := fun W => by have h := next_any d c0 c1 c2 c3 W; rw [en] at h; exact h
        have HNb : Hid (∀ W, Calls Try.prog 20 #[.agg #[.int .i64 d, .int .i64 x0, .int .i64 x1, .int .i64 x2, .int .i64 x3]] W (Ret (.tuple #[.agg #[.int .i64 0, .int .i64 0, .int .i64 0, .int .i64 0, .int .i64 0], .bool false]) W)) := fun W => by have h := next_any d x0 x1 x2 x3 W; rw [em] at h; exact h
        clear en em hN
        go_wp2_with fail
        refine (HNa.out _).mono ?_
        rintro e w5 ⟨rfl, hb5⟩
        have hB5 : Below w.heap.size w w5 := bcall (by repeat' (first | (with_reducible refine below_drewN ?_ _) | go_grown)) hb5 (by first | go_size | (simp; omega))
        have hz5 := hb5.size
        have Npa : Own5 w5 w.heap.size (.int .i64 d) (.int .i64 c0) (.int .i64 c1) (.int .i64 c2) (.int .i64 c3) := Own5.below (by constructor <;> go_cell) hb5 (by first | go_size | (simp; omega))
        have Npb : Own5 w5 (w.heap.size + 1) (.int .i64 d) (.int .i64 x0) (.int .i64 x1) (.int .i64 x2) (.int .i64 x3) := Own5.below (by constructor <;> go_cell) hb5 (by first | go_size | (simp; omega))
        have Npj : Own5 w5 g (.int .i64 y) (.int .i64 y0) (.int .i64 y1) (.int .i64 y2) (.int .i64 y3) := Own5.below (by constructor <;> go_cell) hb5 (by first | go_size | (simp; omega))
        clear pa0 pa1 pa2 pa3 pa4 paf0 paf1 paf2 paf3 paf4 pb0 pb1 pb2 pb3 pb4 pbf0 pbf1 pbf2 pbf3 pbf4 pj0 pj1 pj2 pj3 pj4 pjf0 pjf1 pjf2 pjf3 pjf4
        clear hB4
        try simp only [World.size_alloc] at hz5
        clear hb5
        obtain ⟨pa0, pa1, pa2, pa3, pa4, paf0, paf1, paf2, paf3, paf4⟩ := Npa
        obtain ⟨pb0, pb1, pb2, pb3, pb4, pbf0, pbf1, pbf2, pbf3, pbf4⟩ := Npb
        obtain ⟨pj0, pj1, pj2, pj3, pj4, pjf0, pjf1, pjf2, pjf3, pjf4⟩ := Npj
        have pal5 : w.heap.size < w5.heap.size := World.block_lt_of_cell? _ _ pa0
        have pan5 : w.heap.size ≠ w5.heap.size := Nat.ne_of_lt pal5
        have pbl5 : (w.heap.size + 1) < w5.heap.size := World.block_lt_of_cell? _ _ pb0
        have pbn5 : (w.heap.size + 1) ≠ w5.heap.size := Nat.ne_of_lt pbl5
        have pjl5 : g < w5.heap.size := World.block_lt_of_cell? _ _ pj0
        have pjn5 : g ≠ w5.heap.size := Nat.ne_of_lt pjl5
        go_wp2_with fail
        refine (HNb.out _).mono ?_
        rintro e w6 ⟨rfl, hb6⟩
        have hB6 : Below w.heap.size w w6 := bcall (by repeat' (first | (with_reducible refine below_drewN ?_ _) | go_grown)) hb6 (by first | go_size | (simp; omega))
        have hz6 := hb6.size
        have Npa : Own5 w6 w.heap.size (.int .i64 d) (.int .i64 c0) (.int .i64 c1) (.int .i64 c2) (.int .i64 c3) := Own5.below (by constructor <;> go_cell) hb6 (by first | go_size | (simp; omega))
        have Npb : Own5 w6 (w.heap.size + 1) (.int .i64 d) (.int .i64 x0) (.int .i64 x1) (.int .i64 x2) (.int .i64 x3) := Own5.below (by constructor <;> go_cell) hb6 (by first | go_size | (simp; omega))
        have Npj : Own5 w6 g (.int .i64 0) (.int .i64 0) (.int .i64 0) (.int .i64 0) (.int .i64 0) := Own5.below (by constructor <;> go_cell) hb6 (by first | go_size | (simp; omega))
        clear pa0 pa1 pa2 pa3 pa4 paf0 paf1 paf2 paf3 paf4 pb0 pb1 pb2 pb3 pb4 pbf0 pbf1 pbf2 pbf3 pbf4 pj0 pj1 pj2 pj3 pj4 pjf0 pjf1 pjf2 pjf3 pjf4
        clear hB5
        try simp only [World.size_alloc] at hz6
        clear hb6
        obtain ⟨pa0, pa1, pa2, pa3, pa4, paf0, paf1, paf2, paf3, paf4⟩ := Npa
        obtain ⟨pb0, pb1, pb2, pb3, pb4, pbf0, pbf1, pbf2, pbf3, pbf4⟩ := Npb
        obtain ⟨pj0, pj1, pj2, pj3, pj4, pjf0, pjf1, pjf2, pjf3, pjf4⟩ := Npj
        have pal6 : w.heap.size < w6.heap.size := World.block_lt_of_cell? _ _ pa0
        have pan6 : w.heap.size ≠ w6.heap.size := Nat.ne_of_lt pal6
        have pbl6 : (w.heap.size + 1) < w6.heap.size := World.block_lt_of_cell? _ _ pb0
        have pbn6 : (w.heap.size + 1) ≠ w6.heap.size := Nat.ne_of_lt pbl6
        have pjl6 : g < w6.heap.size := World.block_lt_of_cell? _ _ pj0
        have pjn6 : g ≠ w6.heap.size := Nat.ne_of_lt pjl6
        clear HNa HNb
        rcases hI.out with ⟨i, i0, i1, i2, i3, j, j0, j1, j2, j3, en, em, hle⟩ | ⟨en, em⟩
        · have HNa : Hid (∀ W, Calls Try.prog 17 #[.agg #[.int .i64 d, .int .i64 c0, .int .i64 c1, .int .i64 c2, .int .i64 c3]] W (Ret (.tuple #[.agg #[.int .i64 i, .int .i64 i0, .int .i64 i1, .int .i64 i2, .int .i64 i3], .bool true]) W)) := fun W => by have h := enter_any d c0 c1 c2 c3 W; rw [en] at h; exact h
          have HNb : Hid (∀ W, Calls Try.prog 17 #[.agg #[.int .i64 d, .int .i64 x0, .int .i64 x1, .int .i64 x2, .int .i64 x3]] W (Ret (.tuple #[.agg #[.int .i64 j, .int .i64 j0, .int .i64 j1, .int .i64 j2, .int .i64 j3], .bool true]) W)) := fun W => by have h := enter_any d x0 x1 x2 x3 W; rw [em] at h; exact h
          have HNl := Lib.hid (le_is hle)
          clear hle
          clear en em hI
          go_wp2_with fail
          refine (HNa.out _).mono ?_
          rintro e w7 ⟨rfl, hb7⟩
          have hB7 : Below w.heap.size w w7 := bcall (by repeat' (first | (with_reducible refine below_drewN ?_ _) | go_grown)) hb7 (by first | go_size | (simp; omega))
          have hz7 := hb7.size
          have Npa : Own5 w7 w.heap.size (.int .i64 d) (.int .i64 c0) (.int .i64 c1) (.int .i64 c2) (.int .i64 c3) := Own5.below (by constructor <;> go_cell) hb7 (by first | go_size | (simp; omega))
          have Npb : Own5 w7 (w.heap.size + 1) (.int .i64 d) (.int .i64 x0) (.int .i64 x1) (.int .i64 x2) (.int .i64 x3) := Own5.below (by constructor <;> go_cell) hb7 (by first | go_size | (simp; omega))
          have Npj : Own5 w7 g (.int .i64 0) (.int .i64 0) (.int .i64 0) (.int .i64 0) (.int .i64 0) := Own5.below (by constructor <;> go_cell) hb7 (by first | go_size | (simp; omega))
          have Npk : Own5 w7 w6.heap.size (.int .i64 0) (.int .i64 0) (.int .i64 0) (.int .i64 0) (.int .i64 0) := Own5.below (by constructor <;> go_cell) hb7 (by first | go_size | (simp; omega))
          clear pa0 pa1 pa2 pa3 pa4 paf0 paf1 paf2 paf3 paf4 pb0 pb1 pb2 pb3 pb4 pbf0 pbf1 pbf2 pbf3 pbf4 pj0 pj1 pj2 pj3 pj4 pjf0 pjf1 pjf2 pjf3 pjf4
          clear hB6
          try simp only [World.size_alloc] at hz7
          clear hb7
          obtain ⟨pa0, pa1, pa2, pa3, pa4, paf0, paf1, paf2, paf3, paf4⟩ := Npa
          obtain ⟨pb0, pb1, pb2, pb3, pb4, pbf0, pbf1, pbf2, pbf3, pbf4⟩ := Npb
          obtain ⟨pj0, pj1, pj2, pj3, pj4, pjf0, pjf1, pjf2, pjf3, pjf4⟩ := Npj
          obtain ⟨pk0, pk1, pk2, pk3, pk4, pkf0, pkf1, pkf2, pkf3, pkf4⟩ := Npk
          have pal7 : w.heap.size < w7.heap.size := World.block_lt_of_cell? _ _ pa0
          have pan7 : w.heap.size ≠ w7.heap.size := Nat.ne_of_lt pal7
          have pbl7 : (w.heap.size + 1) < w7.heap.size := World.block_lt_of_cell? _ _ pb0
          have pbn7 : (w.heap.size + 1) ≠ w7.heap.size := Nat.ne_of_lt pbl7
          have pjl7 : g < w7.heap.size := World.block_lt_of_cell? _ _ pj0
          have pjn7 : g ≠ w7.heap.size := Nat.ne_of_lt pjl7
          have pkl7 : w6.heap.size < w7.heap.size := World.block_lt_of_cell? _ _ pk0
          have pkn7 : w6.heap.size ≠ w7.heap.size := Nat.ne_of_lt pkl7
          go_wp2_with fail
          refine (HNb.out _).mono ?_
          rintro e w8 ⟨rfl, hb8⟩
          have hB8 : Below w.heap.size w w8 := bcall (by repeat' (first | (with_reducible refine below_drewN ?_ _) | go_grown)) hb8 (by first | go_size | (simp; omega))
          have hz8 := hb8.size
          have Npa : Own5 w8 w.heap.size (.int .i64 d) (.int .i64 c0) (.int .i64 c1) (.int .i64 c2) (.int .i64 c3) := Own5.below (by constructor <;> go_cell) hb8 (by first | go_size | (simp; omega))
          have Npb : Own5 w8 (w.heap.size + 1) (.int .i64 d) (.int .i64 x0) (.int .i64 x1) (.int .i64 x2) (.int .i64 x3) := Own5.below (by constructor <;> go_cell) hb8 (by first | go_size | (simp; omega))
          have Npj : Own5 w8 g (.int .i64 i) (.int .i64 i0) (.int .i64 i1) (.int .i64 i2) (.int .i64 i3) := Own5.below (by constructor <;> go_cell) hb8 (by first | go_size | (simp; omega))
          have Npk : Own5 w8 w6.heap.size (.int .i64 0) (.int .i64 0) (.int .i64 0) (.int .i64 0) (.int .i64 0) := Own5.below (by constructor <;> go_cell) hb8 (by first | go_size | (simp; omega))
          clear pa0 pa1 pa2 pa3 pa4 paf0 paf1 paf2 paf3 paf4 pb0 pb1 pb2 pb3 pb4 pbf0 pbf1 pbf2 pbf3 pbf4 pj0 pj1 pj2 pj3 pj4 pjf0 pjf1 pjf2 pjf3 pjf4 pk0 pk1 pk2 pk3 pk4 pkf0 pkf1 pkf2 pkf3 pkf4
          clear hB7
          try simp only [World.size_alloc] at hz8
          clear hb8
          obtain ⟨pa0, pa1, pa2, pa3, pa4, paf0, paf1, paf2, paf3, paf4⟩ := Npa
          obtain ⟨pb0, pb1, pb2, pb3, pb4, pbf0, pbf1, pbf2, pbf3, pbf4⟩ := Npb
          obtain ⟨pj0, pj1, pj2, pj3, pj4, pjf0, pjf1, pjf2, pjf3, pjf4⟩ := Npj
          obtain ⟨pk0, pk1, pk2, pk3, pk4, pkf0, pkf1, pkf2, pkf3, pkf4⟩ := Npk
          have pal8 : w.heap.size < w8.heap.size := World.block_lt_of_cell? _ _ pa0
          have pan8 : w.heap.size ≠ w8.heap.size := Nat.ne_of_lt pal8
          have pbl8 : (w.heap.size + 1) < w8.heap.size := World.block_lt_of_cell? _ _ pb0
          have pbn8 : (w.heap.size + 1) ≠ w8.heap.size := Nat.ne_of_lt pbl8
          have pjl8 : g < w8.heap.size := World.block_lt_of_cell? _ _ pj0
          have pjn8 : g ≠ w8.heap.size := Nat.ne_of_lt pjl8
          have pkl8 : w6.heap.size < w8.heap.size := World.block_lt_of_cell? _ _ pk0
          have pkn8 : w6.heap.size ≠ w8.heap.size := Nat.ne_of_lt pkl8
          go_wp2_with fail
          refine (HNl.out _).mono ?_
          rintro e w9 ⟨rfl, hb9⟩
          have hB9 : Below w.heap.size w w9 := bcall (by repeat' (first | (with_reducible refine below_drewN ?_ _) | go_grown)) hb9 (by first | go_size | (simp; omega))
          have hz9 := hb9.size
          have Npa : Own5 w9 w.heap.size (.int .i64 d) (.int .i64 c0) (.int .i64 c1) (.int .i64 c2) (.int .i64 c3) := Own5.below (by constructor <;> go_cell) hb9 (by first | go_size | (simp; omega))
          have Npb : Own5 w9 (w.heap.size + 1) (.int .i64 d) (.int .i64 x0) (.int .i64 x1) (.int .i64 x2) (.int .i64 x3) := Own5.below (by constructor <;> go_cell) hb9 (by first | go_size | (simp; omega))
          have Npj : Own5 w9 g (.int .i64 i) (.int .i64 i0) (.int .i64 i1) (.int .i64 i2) (.int .i64 i3) := Own5.below (by constructor <;> go_cell) hb9 (by first | go_size | (simp; omega))
          have Npk : Own5 w9 w6.heap.size (.int .i64 j) (.int .i64 j0) (.int .i64 j1) (.int .i64 j2) (.int .i64 j3) := Own5.below (by constructor <;> go_cell) hb9 (by first | go_size | (simp; omega))
          clear pa0 pa1 pa2 pa3 pa4 paf0 paf1 paf2 paf3 paf4 pb0 pb1 pb2 pb3 pb4 pbf0 pbf1 pbf2 pbf3 pbf4 pj0 pj1 pj2 pj3 pj4 pjf0 pjf1 pjf2 pjf3 pjf4 pk0 pk1 pk2 pk3 pk4 pkf0 pkf1 pkf2 pkf3 pkf4
          clear hB8
          try simp only [World.size_alloc] at hz9
          clear hb9
          obtain ⟨pa0, pa1, pa2, pa3, pa4, paf0, paf1, paf2, paf3, paf4⟩ := Npa
          obtain ⟨pb0, pb1, pb2, pb3, pb4, pbf0, pbf1, pbf2, pbf3, pbf4⟩ := Npb
          obtain ⟨pj0, pj1, pj2, pj3, pj4, pjf0, pjf1, pjf2, pjf3, pjf4⟩ := Npj
          obtain ⟨pk0, pk1, pk2, pk3, pk4, pkf0, pkf1, pkf2, pkf3, pkf4⟩ := Npk
          have pal9 : w.heap.size < w9.heap.size := World.block_lt_of_cell? _ _ pa0
          have pan9 : w.heap.size ≠ w9.heap.size := Nat.ne_of_lt pal9
          have pbl9 : (w.heap.size + 1) < w9.heap.size := World.block_lt_of_cell? _ _ pb0
          have pbn9 : (w.heap.size + 1) ≠ w9.heap.size := Nat.ne_of_lt pbl9
          have pjl9 : g < w9.heap.size := World.block_lt_of_cell? _ _ pj0
          have pjn9 : g ≠ w9.heap.size := Nat.ne_of_lt pjl9
          have pkl9 : w6.heap.size < w9.heap.size := World.block_lt_of_cell? _ _ pk0
          have pkn9 : w6.heap.size ≠ w9.heap.size := Nat.ne_of_lt pkl9
          clear HNa HNb HNl
          rcases hO.out with ⟨s, s0, s1, s2, s3, t, t0, t1, t2, t3, en, em, hle⟩ | ⟨en, em⟩
          · have HNa : Hid (∀ W, Calls Try.prog 19 #[.agg #[.int .i64 d, .int .i64 c0, .int .i64 c1, .int .i64 c2, .int .i64 c3]] W (Ret (.tuple #[.agg #[.int .i64 s, .int .i64 s0, .int .i64 s1, .int .i64 s2, .int .i64 s3], .bool true]) W)) := fun W => by have h := leave_any d c0 c1 c2 c3 W; rw [en] at h; exact h
            have HNb : Hid (∀ W, Calls Try.prog 19 #[.agg #[.int .i64 d, .int .i64 x0, .int .i64 x1, .int .i64 x2, .int .i64 x3]] W (Ret (.tuple #[.agg #[.int .i64 t, .int .i64 t0, .int .i64 t1, .int .i64 t2, .int .i64 t3], .bool true]) W)) := fun W => by have h := leave_any d x0 x1 x2 x3 W; rw [em] at h; exact h
            have HNl := Lib.hid (le_is hle)
            clear hle
            clear en em hO
            go_wp2_with fail
            refine (HNa.out _).mono ?_
            rintro e w10 ⟨rfl, hb10⟩
            have hB10 : Below w.heap.size w w10 := bcall (by repeat' (first | (with_reducible refine below_drewN ?_ _) | go_grown)) hb10 (by first | go_size | (simp; omega))
            have hz10 := hb10.size
            have Npa : Own5 w10 w.heap.size (.int .i64 d) (.int .i64 c0) (.int .i64 c1) (.int .i64 c2) (.int .i64 c3) := Own5.below (by constructor <;> go_cell) hb10 (by first | go_size | (simp; omega))
            have Npb : Own5 w10 (w.heap.size + 1) (.int .i64 d) (.int .i64 x0) (.int .i64 x1) (.int .i64 x2) (.int .i64 x3) := Own5.below (by constructor <;> go_cell) hb10 (by first | go_size | (simp; omega))
            have Npj : Own5 w10 g (.int .i64 i) (.int .i64 i0) (.int .i64 i1) (.int .i64 i2) (.int .i64 i3) := Own5.below (by constructor <;> go_cell) hb10 (by first | go_size | (simp; omega))
            have Npk : Own5 w10 w6.heap.size (.int .i64 j) (.int .i64 j0) (.int .i64 j1) (.int .i64 j2) (.int .i64 j3) := Own5.below (by constructor <;> go_cell) hb10 (by first | go_size | (simp; omega))
            clear pa0 pa1 pa2 pa3 pa4 paf0 paf1 paf2 paf3 paf4 pb0 pb1 pb2 pb3 pb4 pbf0 pbf1 pbf2 pbf3 pbf4 pj0 pj1 pj2 pj3 pj4 pjf0 pjf1 pjf2 pjf3 pjf4 pk0 pk1 pk2 pk3 pk4 pkf0 pkf1 pkf2 pkf3 pkf4
            clear hB9
            try simp only [World.size_alloc] at hz10
            clear hb10
            obtain ⟨pa0, pa1, pa2, pa3, pa4, paf0, paf1, paf2, paf3, paf4⟩ := Npa
            obtain ⟨pb0, pb1, pb2, pb3, pb4, pbf0, pbf1, pbf2, pbf3, pbf4⟩ := Npb
            obtain ⟨pj0, pj1, pj2, pj3, pj4, pjf0, pjf1, pjf2, pjf3, pjf4⟩ := Npj
            obtain ⟨pk0, pk1, pk2, pk3, pk4, pkf0, pkf1, pkf2, pkf3, pkf4⟩ := Npk
            have pal10 : w.heap.size < w10.heap.size := World.block_lt_of_cell? _ _ pa0
            have pan10 : w.heap.size ≠ w10.heap.size := Nat.ne_of_lt pal10
            have pbl10 : (w.heap.size + 1) < w10.heap.size := World.block_lt_of_cell? _ _ pb0
            have pbn10 : (w.heap.size + 1) ≠ w10.heap.size := Nat.ne_of_lt pbl10
            have pjl10 : g < w10.heap.size := World.block_lt_of_cell? _ _ pj0
            have pjn10 : g ≠ w10.heap.size := Nat.ne_of_lt pjl10
            have pkl10 : w6.heap.size < w10.heap.size := World.block_lt_of_cell? _ _ pk0
            have pkn10 : w6.heap.size ≠ w10.heap.size := Nat.ne_of_lt pkl10
            go_wp2_with fail
            refine (HNb.out _).mono ?_
            rintro e w11 ⟨rfl, hb11⟩
            have hB11 : Below w.heap.size w w11 := bcall (by repeat' (first | (with_reducible refine below_drewN ?_ _) | go_grown)) hb11 (by first | go_size | (simp; omega))
            have hz11 := hb11.size
            have Npa : Own5 w11 w.heap.size (.int .i64 d) (.int .i64 c0) (.int .i64 c1) (.int .i64 c2) (.int .i64 c3) := Own5.below (by constructor <;> go_cell) hb11 (by first | go_size | (simp; omega))
            have Npb : Own5 w11 (w.heap.size + 1) (.int .i64 d) (.int .i64 x0) (.int .i64 x1) (.int .i64 x2) (.int .i64 x3) := Own5.below (by constructor <;> go_cell) hb11 (by first | go_size | (simp; omega))
            have Npj : Own5 w11 g (.int .i64 s) (.int .i64 s0) (.int .i64 s1) (.int .i64 s2) (.int .i64 s3) := Own5.below (by constructor <;> go_cell) hb11 (by first | go_size | (simp; omega))
            have Npk : Own5 w11 w6.heap.size (.int .i64 j) (.int .i64 j0) (.int .i64 j1) (.int .i64 j2) (.int .i64 j3) := Own5.below (by constructor <;> go_cell) hb11 (by first | go_size | (simp; omega))
            clear pa0 pa1 pa2 pa3 pa4 paf0 paf1 paf2 paf3 paf4 pb0 pb1 pb2 pb3 pb4 pbf0 pbf1 pbf2 pbf3 pbf4 pj0 pj1 pj2 pj3 pj4 pjf0 pjf1 pjf2 pjf3 pjf4 pk0 pk1 pk2 pk3 pk4 pkf0 pkf1 pkf2 pkf3 pkf4
            clear hB10
            try simp only [World.size_alloc] at hz11
            clear hb11
            obtain ⟨pa0, pa1, pa2, pa3, pa4, paf0, paf1, paf2, paf3, paf4⟩ := Npa
            obtain ⟨pb0, pb1, pb2, pb3, pb4, pbf0, pbf1, pbf2, pbf3, pbf4⟩ := Npb
            obtain ⟨pj0, pj1, pj2, pj3, pj4, pjf0, pjf1, pjf2, pjf3, pjf4⟩ := Npj
            obtain ⟨pk0, pk1, pk2, pk3, pk4, pkf0, pkf1, pkf2, pkf3, pkf4⟩ := Npk
            have pal11 : w.heap.size < w11.heap.size := World.block_lt_of_cell? _ _ pa0
            have pan11 : w.heap.size ≠ w11.heap.size := Nat.ne_of_lt pal11
            have pbl11 : (w.heap.size + 1) < w11.heap.size := World.block_lt_of_cell? _ _ pb0
            have pbn11 : (w.heap.size + 1) ≠ w11.heap.size := Nat.ne_of_lt pbl11
            have pjl11 : g < w11.heap.size := World.block_lt_of_cell? _ _ pj0
            have pjn11 : g ≠ w11.heap.size := Nat.ne_of_lt pjl11
            have pkl11 : w6.heap.size < w11.heap.size := World.block_lt_of_cell? _ _ pk0
            have pkn11 : w6.heap.size ≠ w11.heap.size := Nat.ne_of_lt pkl11
            go_wp2_with fail
            refine (HNl.out _).mono ?_
            rintro e w12 ⟨rfl, hb12⟩
            have hB12 : Below w.heap.size w w12 := bcall (by repeat' (first | (with_reducible refine below_drewN ?_ _) | go_grown)) hb12 (by first | go_size | (simp; omega))
            have hz12 := hb12.size
            have Npa : Own5 w12 w.heap.size (.int .i64 d) (.int .i64 c0) (.int .i64 c1) (.int .i64 c2) (.int .i64 c3) := Own5.below (by constructor <;> go_cell) hb12 (by first | go_size | (simp; omega))
            have Npb : Own5 w12 (w.heap.size + 1) (.int .i64 d) (.int .i64 x0) (.int .i64 x1) (.int .i64 x2) (.int .i64 x3) := Own5.below (by constructor <;> go_cell) hb12 (by first | go_size | (simp; omega))
            have Npj : Own5 w12 g (.int .i64 s) (.int .i64 s0) (.int .i64 s1) (.int .i64 s2) (.int .i64 s3) := Own5.below (by constructor <;> go_cell) hb12 (by first | go_size | (simp; omega))
            have Npk : Own5 w12 w6.heap.size (.int .i64 t) (.int .i64 t0) (.int .i64 t1) (.int .i64 t2) (.int .i64 t3) := Own5.below (by constructor <;> go_cell) hb12 (by first | go_size | (simp; omega))
            clear pa0 pa1 pa2 pa3 pa4 paf0 paf1 paf2 paf3 paf4 pb0 pb1 pb2 pb3 pb4 pbf0 pbf1 pbf2 pbf3 pbf4 pj0 pj1 pj2 pj3 pj4 pjf0 pjf1 pjf2 pjf3 pjf4 pk0 pk1 pk2 pk3 pk4 pkf0 pkf1 pkf2 pkf3 pkf4
            clear hB11
            try simp only [World.size_alloc] at hz12
            clear hb12
            obtain ⟨pa0, pa1, pa2, pa3, pa4, paf0, paf1, paf2, paf3, paf4⟩ := Npa
            obtain ⟨pb0, pb1, pb2, pb3, pb4, pbf0, pbf1, pbf2, pbf3, pbf4⟩ := Npb
            obtain ⟨pj0, pj1, pj2, pj3, pj4, pjf0, pjf1, pjf2, pjf3, pjf4⟩ := Npj
            obtain ⟨pk0, pk1, pk2, pk3, pk4, pkf0, pkf1, pkf2, pkf3, pkf4⟩ := Npk
            have pal12 : w.heap.size < w12.heap.size := World.block_lt_of_cell? _ _ pa0
            have pan12 : w.heap.size ≠ w12.heap.size := Nat.ne_of_lt pal12
            have pbl12 : (w.heap.size + 1) < w12.heap.size := World.block_lt_of_cell? _ _ pb0
            have pbn12 : (w.heap.size + 1) ≠ w12.heap.size := Nat.ne_of_lt pbl12
            have pjl12 : g < w12.heap.size := World.block_lt_of_cell? _ _ pj0
            have pjn12 : g ≠ w12.heap.size := Nat.ne_of_lt pjl12
            have pkl12 : w6.heap.size < w12.heap.size := World.block_lt_of_cell? _ _ pk0
            have pkn12 : w6.heap.size ≠ w12.heap.size := Nat.ne_of_lt pkl12
            go_wp2
            go_returns
            exact ⟨ret_bool rfl, by repeat' (first | (with_reducible refine below_drewN ?_ _) | go_grown)⟩
          · have HNa : Hid (∀ W, Calls Try.prog 19 #[.agg #[.int .i64 d, .int .i64 c0, .int .i64 c1, .int .i64 c2, .int .i64 c3]] W (Ret (.tuple #[.agg #[.int .i64 0, .int .i64 0, .int .i64 0, .int .i64 0, .int .i64 0], .bool false]) W)) := fun W => by have h := leave_any d c0 c1 c2 c3 W; rw [en] at h; exact h
            have HNb : Hid (∀ W, Calls Try.prog 19 #[.agg #[.int .i64 d, .int .i64 x0, .int .i64 x1, .int .i64 x2, .int .i64 x3]] W (Ret (.tuple #[.agg #[.int .i64 0, .int .i64 0, .int .i64 0, .int .i64 0, .int .i64 0], .bool false]) W)) := fun W => by have h := leave_any d x0 x1 x2 x3 W; rw [em] at h; exact h
            clear en em hO
            go_wp2_with fail
            refine (HNa.out _).mono ?_
            rintro e w10 ⟨rfl, hb10⟩
            have hB10 : Below w.heap.size w w10 := bcall (by repeat' (first | (with_reducible refine below_drewN ?_ _) | go_grown)) hb10 (by first | go_size | (simp; omega))
            have hz10 := hb10.size
            have Npa : Own5 w10 w.heap.size (.int .i64 d) (.int .i64 c0) (.int .i64 c1) (.int .i64 c2) (.int .i64 c3) := Own5.below (by constructor <;> go_cell) hb10 (by first | go_size | (simp; omega))
            have Npb : Own5 w10 (w.heap.size + 1) (.int .i64 d) (.int .i64 x0) (.int .i64 x1) (.int .i64 x2) (.int .i64 x3) := Own5.below (by constructor <;> go_cell) hb10 (by first | go_size | (simp; omega))
            have Npj : Own5 w10 g (.int .i64 i) (.int .i64 i0) (.int .i64 i1) (.int .i64 i2) (.int .i64 i3) := Own5.below (by constructor <;> go_cell) hb10 (by first | go_size | (simp; omega))
            have Npk : Own5 w10 w6.heap.size (.int .i64 j) (.int .i64 j0) (.int .i64 j1) (.int .i64 j2) (.int .i64 j3) := Own5.below (by constructor <;> go_cell) hb10 (by first | go_size | (simp; omega))
            clear pa0 pa1 pa2 pa3 pa4 paf0 paf1 paf2 paf3 paf4 pb0 pb1 pb2 pb3 pb4 pbf0 pbf1 pbf2 pbf3 pbf4 pj0 pj1 pj2 pj3 pj4 pjf0 pjf1 pjf2 pjf3 pjf4 pk0 pk1 pk2 pk3 pk4 pkf0 pkf1 pkf2 pkf3 pkf4
            clear hB9
            try simp only [World.size_alloc] at hz10
            clear hb10
            obtain ⟨pa0, pa1, pa2, pa3, pa4, paf0, paf1, paf2, paf3, paf4⟩ := Npa
            obtain ⟨pb0, pb1, pb2, pb3, pb4, pbf0, pbf1, pbf2, pbf3, pbf4⟩ := Npb
            obtain ⟨pj0, pj1, pj2, pj3, pj4, pjf0, pjf1, pjf2, pjf3, pjf4⟩ := Npj
            obtain ⟨pk0, pk1, pk2, pk3, pk4, pkf0, pkf1, pkf2, pkf3, pkf4⟩ := Npk
            have pal10 : w.heap.size < w10.heap.size := World.block_lt_of_cell? _ _ pa0
            have pan10 : w.heap.size ≠ w10.heap.size := Nat.ne_of_lt pal10
            have pbl10 : (w.heap.size + 1) < w10.heap.size := World.block_lt_of_cell? _ _ pb0
            have pbn10 : (w.heap.size + 1) ≠ w10.heap.size := Nat.ne_of_lt pbl10
            have pjl10 : g < w10.heap.size := World.block_lt_of_cell? _ _ pj0
            have pjn10 : g ≠ w10.heap.size := Nat.ne_of_lt pjl10
            have pkl10 : w6.heap.size < w10.heap.size := World.block_lt_of_cell? _ _ pk0
            have pkn10 : w6.heap.size ≠ w10.heap.size := Nat.ne_of_lt pkl10
            go_wp2_with fail
            refine (HNb.out _).mono ?_
            rintro e w11 ⟨rfl, hb11⟩
            have hB11 : Below w.heap.size w w11 := bcall (by repeat' (first | (with_reducible refine below_drewN ?_ _) | go_grown)) hb11 (by first | go_size | (simp; omega))
            have hz11 := hb11.size
            have Npa : Own5 w11 w.heap.size (.int .i64 d) (.int .i64 c0) (.int .i64 c1) (.int .i64 c2) (.int .i64 c3) := Own5.below (by constructor <;> go_cell) hb11 (by first | go_size | (simp; omega))
            have Npb : Own5 w11 (w.heap.size + 1) (.int .i64 d) (.int .i64 x0) (.int .i64 x1) (.int .i64 x2) (.int .i64 x3) := Own5.below (by constructor <;> go_cell) hb11 (by first | go_size | (simp; omega))
            have Npj : Own5 w11 g (.int .i64 0) (.int .i64 0) (.int .i64 0) (.int .i64 0) (.int .i64 0) := Own5.below (by constructor <;> go_cell) hb11 (by first | go_size | (simp; omega))
            have Npk : Own5 w11 w6.heap.size (.int .i64 j) (.int .i64 j0) (.int .i64 j1) (.int .i64 j2) (.int .i64 j3) := Own5.below (by constructor <;> go_cell) hb11 (by first | go_size | (simp; omega))
            clear pa0 pa1 pa2 pa3 pa4 paf0 paf1 paf2 paf3 paf4 pb0 pb1 pb2 pb3 pb4 pbf0 pbf1 pbf2 pbf3 pbf4 pj0 pj1 pj2 pj3 pj4 pjf0 pjf1 pjf2 pjf3 pjf4 pk0 pk1 pk2 pk3 pk4 pkf0 pkf1 pkf2 pkf3 pkf4
            clear hB10
            try simp only [World.size_alloc] at hz11
            clear hb11
            obtain ⟨pa0, pa1, pa2, pa3, pa4, paf0, paf1, paf2, paf3, paf4⟩ := Npa
            obtain ⟨pb0, pb1, pb2, pb3, pb4, pbf0, pbf1, pbf2, pbf3, pbf4⟩ := Npb
            obtain ⟨pj0, pj1, pj2, pj3, pj4, pjf0, pjf1, pjf2, pjf3, pjf4⟩ := Npj
            obtain ⟨pk0, pk1, pk2, pk3, pk4, pkf0, pkf1, pkf2, pkf3, pkf4⟩ := Npk
            have pal11 : w.heap.size < w11.heap.size := World.block_lt_of_cell? _ _ pa0
            have pan11 : w.heap.size ≠ w11.heap.size := Nat.ne_of_lt pal11
            have pbl11 : (w.heap.size + 1) < w11.heap.size := World.block_lt_of_cell? _ _ pb0
            have pbn11 : (w.heap.size + 1) ≠ w11.heap.size := Nat.ne_of_lt pbl11
            have pjl11 : g < w11.heap.size := World.block_lt_of_cell? _ _ pj0
            have pjn11 : g ≠ w11.heap.size := Nat.ne_of_lt pjl11
            have pkl11 : w6.heap.size < w11.heap.size := World.block_lt_of_cell? _ _ pk0
            have pkn11 : w6.heap.size ≠ w11.heap.size := Nat.ne_of_lt pkl11
            go_wp2
            go_returns
            exact ⟨ret_bool rfl, by repeat' (first | (with_reducible refine below_drewN ?_ _) | go_grown)⟩
        · have HNa : Hid (∀ W, Calls Try.prog 17 #[.agg #[.int .i64 d, .int .i64 c0, .int .i64 c1, .int .i64 c2, .int .i64 c3]] W (Ret (.tuple #[.agg #[.int .i64 0, .int .i64 0, .int .i64 0, .int .i64 0, .int .i64 0], .bool false]) W)) := fun W => by have h := enter_any d c0 c1 c2 c3 W; rw [en] at h; exact h
          have HNb : Hid (∀ W, Calls Try.prog 17 #[.agg #[.int .i64 d, .int .i64 x0, .int .i64 x1, .int .i64 x2, .int .i64 x3]] W (Ret (.tuple #[.agg #[.int .i64 0, .int .i64 0, .int .i64 0, .int .i64 0, .int .i64 0], .bool false]) W)) := fun W => by have h := enter_any d x0 x1 x2 x3 W; rw [em] at h; exact h
          clear en em hI
          go_wp2_with fail
          refine (HNa.out _).mono ?_
          rintro e w7 ⟨rfl, hb7⟩
          have hB7 : Below w.heap.size w w7 := bcall (by repeat' (first | (with_reducible refine below_drewN ?_ _) | go_grown)) hb7 (by first | go_size | (simp; omega))
          have hz7 := hb7.size
          have Npa : Own5 w7 w.heap.size (.int .i64 d) (.int .i64 c0) (.int .i64 c1) (.int .i64 c2) (.int .i64 c3) := Own5.below (by constructor <;> go_cell) hb7 (by first | go_size | (simp; omega))
          have Npb : Own5 w7 (w.heap.size + 1) (.int .i64 d) (.int .i64 x0) (.int .i64 x1) (.int .i64 x2) (.int .i64 x3) := Own5.below (by constructor <;> go_cell) hb7 (by first | go_size | (simp; omega))
          have Npj : Own5 w7 g (.int .i64 0) (.int .i64 0) (.int .i64 0) (.int .i64 0) (.int .i64 0) := Own5.below (by constructor <;> go_cell) hb7 (by first | go_size | (simp; omega))
          have Npk : Own5 w7 w6.heap.size (.int .i64 0) (.int .i64 0) (.int .i64 0) (.int .i64 0) (.int .i64 0) := Own5.below (by constructor <;> go_cell) hb7 (by first | go_size | (simp; omega))
          clear pa0 pa1 pa2 pa3 pa4 paf0 paf1 paf2 paf3 paf4 pb0 pb1 pb2 pb3 pb4 pbf0 pbf1 pbf2 pbf3 pbf4 pj0 pj1 pj2 pj3 pj4 pjf0 pjf1 pjf2 pjf3 pjf4
          clear hB6
          try simp only [World.size_alloc] at hz7
          clear hb7
          obtain ⟨pa0, pa1, pa2, pa3, pa4, paf0, paf1, paf2, paf3, paf4⟩ := Npa
          obtain ⟨pb0, pb1, pb2, pb3, pb4, pbf0, pbf1, pbf2, pbf3, pbf4⟩ := Npb
          obtain ⟨pj0, pj1, pj2, pj3, pj4, pjf0, pjf1, pjf2, pjf3, pjf4⟩ := Npj
          obtain ⟨pk0, pk1, pk2, pk3, pk4, pkf0, pkf1, pkf2, pkf3, pkf4⟩ := Npk
          have pal7 : w.heap.size < w7.heap.size := World.block_lt_of_cell? _ _ pa0
          have pan7 : w.heap.size ≠ w7.heap.size := Nat.ne_of_lt pal7
          have pbl7 : (w.heap.size + 1) < w7.heap.size := World.block_lt_of_cell? _ _ pb0
          have pbn7 : (w.heap.size + 1) ≠ w7.heap.size := Nat.ne_of_lt pbl7
          have pjl7 : g < w7.heap.size := World.block_lt_of_cell? _ _ pj0
          have pjn7 : g ≠ w7.heap.size := Nat.ne_of_lt pjl7
          have pkl7 : w6.heap.size < w7.heap.size := World.block_lt_of_cell? _ _ pk0
          have pkn7 : w6.heap.size ≠ w7.heap.size := Nat.ne_of_lt pkl7
          go_wp2_with fail
          refine (HNb.out _).mono ?_
          rintro e w8 ⟨rfl, hb8⟩
          have hB8 : Below w.heap.size w w8 := bcall (by repeat' (first | (with_reducible refine below_drewN ?_ _) | go_grown)) hb8 (by first | go_size | (simp; omega))
          have hz8 := hb8.size
          have Npa : Own5 w8 w.heap.size (.int .i64 d) (.int .i64 c0) (.int .i64 c1) (.int .i64 c2) (.int .i64 c3) := Own5.below (by constructor <;> go_cell) hb8 (by first | go_size | (simp; omega))
          have Npb : Own5 w8 (w.heap.size + 1) (.int .i64 d) (.int .i64 x0) (.int .i64 x1) (.int .i64 x2) (.int .i64 x3) := Own5.below (by constructor <;> go_cell) hb8 (by first | go_size | (simp; omega))
          have Npj : Own5 w8 g (.int .i64 0) (.int .i64 0) (.int .i64 0) (.int .i64 0) (.int .i64 0) := Own5.below (by constructor <;> go_cell) hb8 (by first | go_size | (simp; omega))
          have Npk : Own5 w8 w6.heap.size (.int .i64 0) (.int .i64 0) (.int .i64 0) (.int .i64 0) (.int .i64 0) := Own5.below (by constructor <;> go_cell) hb8 (by first | go_size | (simp; omega))
          clear pa0 pa1 pa2 pa3 pa4 paf0 paf1 paf2 paf3 paf4 pb0 pb1 pb2 pb3 pb4 pbf0 pbf1 pbf2 pbf3 pbf4 pj0 pj1 pj2 pj3 pj4 pjf0 pjf1 pjf2 pjf3 pjf4 pk0 pk1 pk2 pk3 pk4 pkf0 pkf1 pkf2 pkf3 pkf4
          clear hB7
          try simp only [World.size_alloc] at hz8
          clear hb8
          obtain ⟨pa0, pa1, pa2, pa3, pa4, paf0, paf1, paf2, paf3, paf4⟩ := Npa
          obtain ⟨pb0, pb1, pb2, pb3, pb4, pbf0, pbf1, pbf2, pbf3, pbf4⟩ := Npb
          obtain ⟨pj0, pj1, pj2, pj3, pj4, pjf0, pjf1, pjf2, pjf3, pjf4⟩ := Npj
          obtain ⟨pk0, pk1, pk2, pk3, pk4, pkf0, pkf1, pkf2, pkf3, pkf4⟩ := Npk
          have pal8 : w.heap.size < w8.heap.size := World.block_lt_of_cell? _ _ pa0
          have pan8 : w.heap.size ≠ w8.heap.size := Nat.ne_of_lt pal8
          have pbl8 : (w.heap.size + 1) < w8.heap.size := World.block_lt_of_cell? _ _ pb0
          have pbn8 : (w.heap.size + 1) ≠ w8.heap.size := Nat.ne_of_lt pbl8
          have pjl8 : g < w8.heap.size := World.block_lt_of_cell? _ _ pj0
          have pjn8 : g ≠ w8.heap.size := Nat.ne_of_lt pjl8
          have pkl8 : w6.heap.size < w8.heap.size := World.block_lt_of_cell? _ _ pk0
          have pkn8 : w6.heap.size ≠ w8.heap.size := Nat.ne_of_lt pkl8
          clear HNa HNb
          rcases hO.out with ⟨s, s0, s1, s2, s3, t, t0, t1, t2, t3, en, em, hle⟩ | ⟨en, em⟩
          · have HNa : Hid (∀ W, Calls Try.prog 19 #[.agg #[.int .i64 d, .int .i64 c0, .int .i64 c1, .int .i64 c2, .int .i64 c3]] W (Ret (.tuple #[.agg #[.int .i64 s, .int .i64 s0, .int .i64 s1, .int .i64 s2, .int .i64 s3], .bool true]) W)) := fun W => by have h := leave_any d c0 c1 c2 c3 W; rw [en] at h; exact h
            have HNb : Hid (∀ W, Calls Try.prog 19 #[.agg #[.int .i64 d, .int .i64 x0, .int .i64 x1, .int .i64 x2, .int .i64 x3]] W (Ret (.tuple #[.agg #[.int .i64 t, .int .i64 t0, .int .i64 t1, .int .i64 t2, .int .i64 t3], .bool true]) W)) := fun W => by have h := leave_any d x0 x1 x2 x3 W; rw [em] at h; exact h
            have HNl := Lib.hid (le_is hle)
            clear hle
            clear en em hO
            go_wp2_with fail
            refine (HNa.out _).mono ?_
            rintro e w9 ⟨rfl, hb9⟩
            have hB9 : Below w.heap.size w w9 := bcall (by repeat' (first | (with_reducible refine below_drewN ?_ _) | go_grown)) hb9 (by first | go_size | (simp; omega))
            have hz9 := hb9.size
            have Npa : Own5 w9 w.heap.size (.int .i64 d) (.int .i64 c0) (.int .i64 c1) (.int .i64 c2) (.int .i64 c3) := Own5.below (by constructor <;> go_cell) hb9 (by first | go_size | (simp; omega))
            have Npb : Own5 w9 (w.heap.size + 1) (.int .i64 d) (.int .i64 x0) (.int .i64 x1) (.int .i64 x2) (.int .i64 x3) := Own5.below (by constructor <;> go_cell) hb9 (by first | go_size | (simp; omega))
            have Npj : Own5 w9 g (.int .i64 0) (.int .i64 0) (.int .i64 0) (.int .i64 0) (.int .i64 0) := Own5.below (by constructor <;> go_cell) hb9 (by first | go_size | (simp; omega))
            have Npk : Own5 w9 w6.heap.size (.int .i64 0) (.int .i64 0) (.int .i64 0) (.int .i64 0) (.int .i64 0) := Own5.below (by constructor <;> go_cell) hb9 (by first | go_size | (simp; omega))
            clear pa0 pa1 pa2 pa3 pa4 paf0 paf1 paf2 paf3 paf4 pb0 pb1 pb2 pb3 pb4 pbf0 pbf1 pbf2 pbf3 pbf4 pj0 pj1 pj2 pj3 pj4 pjf0 pjf1 pjf2 pjf3 pjf4 pk0 pk1 pk2 pk3 pk4 pkf0 pkf1 pkf2 pkf3 pkf4
            clear hB8
            try simp only [World.size_alloc] at hz9
            clear hb9
            obtain ⟨pa0, pa1, pa2, pa3, pa4, paf0, paf1, paf2, paf3, paf4⟩ := Npa
            obtain ⟨pb0, pb1, pb2, pb3, pb4, pbf0, pbf1, pbf2, pbf3, pbf4⟩ := Npb
            obtain ⟨pj0, pj1, pj2, pj3, pj4, pjf0, pjf1, pjf2, pjf3, pjf4⟩ := Npj
            obtain ⟨pk0, pk1, pk2, pk3, pk4, pkf0, pkf1, pkf2, pkf3, pkf4⟩ := Npk
            have pal9 : w.heap.size < w9.heap.size := World.block_lt_of_cell? _ _ pa0
            have pan9 : w.heap.size ≠ w9.heap.size := Nat.ne_of_lt pal9
            have pbl9 : (w.heap.size + 1) < w9.heap.size := World.block_lt_of_cell? _ _ pb0
            have pbn9 : (w.heap.size + 1) ≠ w9.heap.size := Nat.ne_of_lt pbl9
            have pjl9 : g < w9.heap.size := World.block_lt_of_cell? _ _ pj0
            have pjn9 : g ≠ w9.heap.size := Nat.ne_of_lt pjl9
            have pkl9 : w6.heap.size < w9.heap.size := World.block_lt_of_cell? _ _ pk0
            have pkn9 : w6.heap.size ≠ w9.heap.size := Nat.ne_of_lt pkl9
            go_wp2_with fail
            refine (HNb.out _).mono ?_
            rintro e w10 ⟨rfl, hb10⟩
            have hB10 : Below w.heap.size w w10 := bcall (by repeat' (first | (with_reducible refine below_drewN ?_ _) | go_grown)) hb10 (by first | go_size | (simp; omega))
            have hz10 := hb10.size
            have Npa : Own5 w10 w.heap.size (.int .i64 d) (.int .i64 c0) (.int .i64 c1) (.int .i64 c2) (.int .i64 c3) := Own5.below (by constructor <;> go_cell) hb10 (by first | go_size | (simp; omega))
            have Npb : Own5 w10 (w.heap.size + 1) (.int .i64 d) (.int .i64 x0) (.int .i64 x1) (.int .i64 x2) (.int .i64 x3) := Own5.below (by constructor <;> go_cell) hb10 (by first | go_size | (simp; omega))
            have Npj : Own5 w10 g (.int .i64 s) (.int .i64 s0) (.int .i64 s1) (.int .i64 s2) (.int .i64 s3) := Own5.below (by constructor <;> go_cell) hb10 (by first | go_size | (simp; omega))
            have Npk : Own5 w10 w6.heap.size (.int .i64 0) (.int .i64 0) (.int .i64 0) (.int .i64 0) (.int .i64 0) := Own5.below (by constructor <;> go_cell) hb10 (by first | go_size | (simp; omega))
            clear pa0 pa1 pa2 pa3 pa4 paf0 paf1 paf2 paf3 paf4 pb0 pb1 pb2 pb3 pb4 pbf0 pbf1 pbf2 pbf3 pbf4 pj0 pj1 pj2 pj3 pj4 pjf0 pjf1 pjf2 pjf3 pjf4 pk0 pk1 pk2 pk3 pk4 pkf0 pkf1 pkf2 pkf3 pkf4
            clear hB9
            try simp only [World.size_alloc] at hz10
            clear hb10
            obtain ⟨pa0, pa1, pa2, pa3, pa4, paf0, paf1, paf2, paf3, paf4⟩ := Npa
            obtain ⟨pb0, pb1, pb2, pb3, pb4, pbf0, pbf1, pbf2, pbf3, pbf4⟩ := Npb
            obtain ⟨pj0, pj1, pj2, pj3, pj4, pjf0, pjf1, pjf2, pjf3, pjf4⟩ := Npj
            obtain ⟨pk0, pk1, pk2, pk3, pk4, pkf0, pkf1, pkf2, pkf3, pkf4⟩ := Npk
            have pal10 : w.heap.size < w10.heap.size := World.block_lt_of_cell? _ _ pa0
            have pan10 : w.heap.size ≠ w10.heap.size := Nat.ne_of_lt pal10
            have pbl10 : (w.heap.size + 1) < w10.heap.size := World.block_lt_of_cell? _ _ pb0
            have pbn10 : (w.heap.size + 1) ≠ w10.heap.size := Nat.ne_of_lt pbl10
            have pjl10 : g < w10.heap.size := World.block_lt_of_cell? _ _ pj0
            have pjn10 : g ≠ w10.heap.size := Nat.ne_of_lt pjl10
            have pkl10 : w6.heap.size < w10.heap.size := World.block_lt_of_cell? _ _ pk0
            have pkn10 : w6.heap.size ≠ w10.heap.size := Nat.ne_of_lt pkl10
            go_wp2_with fail
            refine (HNl.out _).mono ?_
            rintro e w11 ⟨rfl, hb11⟩
            have hB11 : Below w.heap.size w w11 := bcall (by repeat' (first | (with_reducible refine below_drewN ?_ _) | go_grown)) hb11 (by first | go_size | (simp; omega))
            have hz11 := hb11.size
            have Npa : Own5 w11 w.heap.size (.int .i64 d) (.int .i64 c0) (.int .i64 c1) (.int .i64 c2) (.int .i64 c3) := Own5.below (by constructor <;> go_cell) hb11 (by first | go_size | (simp; omega))
            have Npb : Own5 w11 (w.heap.size + 1) (.int .i64 d) (.int .i64 x0) (.int .i64 x1) (.int .i64 x2) (.int .i64 x3) := Own5.below (by constructor <;> go_cell) hb11 (by first | go_size | (simp; omega))
            have Npj : Own5 w11 g (.int .i64 s) (.int .i64 s0) (.int .i64 s1) (.int .i64 s2) (.int .i64 s3) := Own5.below (by constructor <;> go_cell) hb11 (by first | go_size | (simp; omega))
            have Npk : Own5 w11 w6.heap.size (.int .i64 t) (.int .i64 t0) (.int .i64 t1) (.int .i64 t2) (.int .i64 t3) := Own5.below (by constructor <;> go_cell) hb11 (by first | go_size | (simp; omega))
            clear pa0 pa1 pa2 pa3 pa4 paf0 paf1 paf2 paf3 paf4 pb0 pb1 pb2 pb3 pb4 pbf0 pbf1 pbf2 pbf3 pbf4 pj0 pj1 pj2 pj3 pj4 pjf0 pjf1 pjf2 pjf3 pjf4 pk0 pk1 pk2 pk3 pk4 pkf0 pkf1 pkf2 pkf3 pkf4
            clear hB10
            try simp only [World.size_alloc] at hz11
            clear hb11
            obtain ⟨pa0, pa1, pa2, pa3, pa4, paf0, paf1, paf2, paf3, paf4⟩ := Npa
            obtain ⟨pb0, pb1, pb2, pb3, pb4, pbf0, pbf1, pbf2, pbf3, pbf4⟩ := Npb
            obtain ⟨pj0, pj1, pj2, pj3, pj4, pjf0, pjf1, pjf2, pjf3, pjf4⟩ := Npj
            obtain ⟨pk0, pk1, pk2, pk3, pk4, pkf0, pkf1, pkf2, pkf3, pkf4⟩ := Npk
            have pal11 : w.heap.size < w11.heap.size := World.block_lt_of_cell? _ _ pa0
            have pan11 : w.heap.size ≠ w11.heap.size := Nat.ne_of_lt pal11
            have pbl11 : (w.heap.size + 1) < w11.heap.size := World.block_lt_of_cell? _ _ pb0
            have pbn11 : (w.heap.size + 1) ≠ w11.heap.size := Nat.ne_of_lt pbl11
            have pjl11 : g < w11.heap.size := World.block_lt_of_cell? _ _ pj0
            have pjn11 : g ≠ w11.heap.size := Nat.ne_of_lt pjl11
            have pkl11 : w6.heap.size < w11.heap.size := World.block_lt_of_cell? _ _ pk0
            have pkn11 : w6.heap.size ≠ w11.heap.size := Nat.ne_of_lt pkl11
            go_wp2
            go_returns
            exact ⟨ret_bool rfl, by repeat' (first | (with_reducible refine below_drewN ?_ _) | go_grown)⟩
          · have HNa : Hid (∀ W, Calls Try.prog 19 #[.agg #[.int .i64 d, .int .i64 c0, .int .i64 c1, .int .i64 c2, .int .i64 c3]] W (Ret (.tuple #[.agg #[.int .i64 0, .int .i64 0, .int .i64 0, .int .i64 0, .int .i64 0], .bool false]) W)) := fun W => by have h := leave_any d c0 c1 c2 c3 W; rw [en] at h; exact h
            have HNb : Hid (∀ W, Calls Try.prog 19 #[.agg #[.int .i64 d, .int .i64 x0, .int .i64 x1, .int .i64 x2, .int .i64 x3]] W (Ret (.tuple #[.agg #[.int .i64 0, .int .i64 0, .int .i64 0, .int .i64 0, .int .i64 0], .bool false]) W)) := fun W => by have h := leave_any d x0 x1 x2 x3 W; rw [em] at h; exact h
            clear en em hO
            go_wp2_with fail
            refine (HNa.out _).mono ?_
            rintro e w9 ⟨rfl, hb9⟩
            have hB9 : Below w.heap.size w w9 := bcall (by repeat' (first | (with_reducible refine below_drewN ?_ _) | go_grown)) hb9 (by first | go_size | (simp; omega))
            have hz9 := hb9.size
            have Npa : Own5 w9 w.heap.size (.int .i64 d) (.int .i64 c0) (.int .i64 c1) (.int .i64 c2) (.int .i64 c3) := Own5.below (by constructor <;> go_cell) hb9 (by first | go_size | (simp; omega))
            have Npb : Own5 w9 (w.heap.size + 1) (.int .i64 d) (.int .i64 x0) (.int .i64 x1) (.int .i64 x2) (.int .i64 x3) := Own5.below (by constructor <;> go_cell) hb9 (by first | go_size | (simp; omega))
            have Npj : Own5 w9 g (.int .i64 0) (.int .i64 0) (.int .i64 0) (.int .i64 0) (.int .i64 0) := Own5.below (by constructor <;> go_cell) hb9 (by first | go_size | (simp; omega))
            have Npk : Own5 w9 w6.heap.size (.int .i64 0) (.int .i64 0) (.int .i64 0) (.int .i64 0) (.int .i64 0) := Own5.below (by constructor <;> go_cell) hb9 (by first | go_size | (simp; omega))
            clear pa0 pa1 pa2 pa3 pa4 paf0 paf1 paf2 paf3 paf4 pb0 pb1 pb2 pb3 pb4 pbf0 pbf1 pbf2 pbf3 pbf4 pj0 pj1 pj2 pj3 pj4 pjf0 pjf1 pjf2 pjf3 pjf4 pk0 pk1 pk2 pk3 pk4 pkf0 pkf1 pkf2 pkf3 pkf4
            clear hB8
            try simp only [World.size_alloc] at hz9
            clear hb9
            obtain ⟨pa0, pa1, pa2, pa3, pa4, paf0, paf1, paf2, paf3, paf4⟩ := Npa
            obtain ⟨pb0, pb1, pb2, pb3, pb4, pbf0, pbf1, pbf2, pbf3, pbf4⟩ := Npb
            obtain ⟨pj0, pj1, pj2, pj3, pj4, pjf0, pjf1, pjf2, pjf3, pjf4⟩ := Npj
            obtain ⟨pk0, pk1, pk2, pk3, pk4, pkf0, pkf1, pkf2, pkf3, pkf4⟩ := Npk
            have pal9 : w.heap.size < w9.heap.size := World.block_lt_of_cell? _ _ pa0
            have pan9 : w.heap.size ≠ w9.heap.size := Nat.ne_of_lt pal9
            have pbl9 : (w.heap.size + 1) < w9.heap.size := World.block_lt_of_cell? _ _ pb0
            have pbn9 : (w.heap.size + 1) ≠ w9.heap.size := Nat.ne_of_lt pbl9
            have pjl9 : g < w9.heap.size := World.block_lt_of_cell? _ _ pj0
            have pjn9 : g ≠ w9.heap.size := Nat.ne_of_lt pjl9
            have pkl9 : w6.heap.size < w9.heap.size := World.block_lt_of_cell? _ _ pk0
            have pkn9 : w6.heap.size ≠ w9.heap.size := Nat.ne_of_lt pkl9
            go_wp2_with fail
            refine (HNb.out _).mono ?_
            rintro e w10 ⟨rfl, hb10⟩
            have hB10 : Below w.heap.size w w10 := bcall (by repeat' (first | (with_reducible refine below_drewN ?_ _) | go_grown)) hb10 (by first | go_size | (simp; omega))
            have hz10 := hb10.size
            have Npa : Own5 w10 w.heap.size (.int .i64 d) (.int .i64 c0) (.int .i64 c1) (.int .i64 c2) (.int .i64 c3) := Own5.below (by constructor <;> go_cell) hb10 (by first | go_size | (simp; omega))
            have Npb : Own5 w10 (w.heap.size + 1) (.int .i64 d) (.int .i64 x0) (.int .i64 x1) (.int .i64 x2) (.int .i64 x3) := Own5.below (by constructor <;> go_cell) hb10 (by first | go_size | (simp; omega))
            have Npj : Own5 w10 g (.int .i64 0) (.int .i64 0) (.int .i64 0) (.int .i64 0) (.int .i64 0) := Own5.below (by constructor <;> go_cell) hb10 (by first | go_size | (simp; omega))
            have Npk : Own5 w10 w6.heap.size (.int .i64 0) (.int .i64 0) (.int .i64 0) (.int .i64 0) (.int .i64 0) := Own5.below (by constructor <;> go_cell) hb10 (by first | go_size | (simp; omega))
            clear pa0 pa1 pa2 pa3 pa4 paf0 paf1 paf2 paf3 paf4 pb0 pb1 pb2 pb3 pb4 pbf0 pbf1 pbf2 pbf3 pbf4 pj0 pj1 pj2 pj3 pj4 pjf0 pjf1 pjf2 pjf3 pjf4 pk0 pk1 pk2 pk3 pk4 pkf0 pkf1 pkf2 pkf3 pkf4
            clear hB9
            try simp only [World.size_alloc] at hz10
            clear hb10
            obtain ⟨pa0, pa1, pa2, pa3, pa4, paf0, paf1, paf2, paf3, paf4⟩ := Npa
            obtain ⟨pb0, pb1, pb2, pb3, pb4, pbf0, pbf1, pbf2, pbf3, pbf4⟩ := Npb
            obtain ⟨pj0, pj1, pj2, pj3, pj4, pjf0, pjf1, pjf2, pjf3, pjf4⟩ := Npj
            obtain ⟨pk0, pk1, pk2, pk3, pk4, pkf0, pkf1, pkf2, pkf3, pkf4⟩ := Npk
            have pal10 : w.heap.size < w10.heap.size := World.block_lt_of_cell? _ _ pa0
            have pan10 : w.heap.size ≠ w10.heap.size := Nat.ne_of_lt pal10
            have pbl10 : (w.heap.size + 1) < w10.heap.size := World.block_lt_of_cell? _ _ pb0
            have pbn10 : (w.heap.size + 1) ≠ w10.heap.size := Nat.ne_of_lt pbl10
            have pjl10 : g < w10.heap.size := World.block_lt_of_cell? _ _ pj0
            have pjn10 : g ≠ w10.heap.size := Nat.ne_of_lt pjl10
            have pkl10 : w6.heap.size < w10.heap.size := World.block_lt_of_cell? _ _ pk0
            have pkn10 : w6.heap.size ≠ w10.heap.size := Nat.ne_of_lt pkl10
            go_wp2
            go_returns
            exact ⟨ret_bool rfl, by repeat' (first | (with_reducible refine below_drewN ?_ _) | go_grown)⟩
end Go.Proofs.Ytigiinbgnpohmaa
