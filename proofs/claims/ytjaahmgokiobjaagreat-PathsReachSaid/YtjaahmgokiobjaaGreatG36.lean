/- paths.compare: steps held against each other -/
import Derived.Test.YtjaahmgokiobjaaGreatG35
import Derived.Test.YtjaahmgokiobjaaGreatG05
import Derived.Test.YtjaahmgokiobjaaGreatG29
import Derived.Test.YtjaahmgokiobjaaGreatG16
import Derived.Test.YtjaahmgokiobjaaGreatG17
import Derived.Sort.Grow
namespace Go.Proofs.YtjaahmgokiobjaaGreat
open Go.RowKit
set_option linter.unusedVariables false
set_option linter.unusedSimpArgs false

theorem drawn_allocE (w : World) (o : Obj) : (w.alloc o).drawn = w.drawn := rfl
theorem drawn_drewE (w : World) : w.drew.drawn = w.drawn + 1 := rfl
theorem ints4_below {w w' : World} {b o : Nat} {x0 x1 x2 x3 : Int} (h : ints4 w b o x0 x1 x2 x3) (hb : Below w.heap.size w w') (hl : b < w.heap.size) : ints4 w' b o x0 x1 x2 x3 :=
  ⟨(hb.cell (p := ⟨b, o, none⟩) hl).trans h.1, (hb.cell (p := ⟨b, o + 1, none⟩) hl).trans h.2.1, (hb.cell (p := ⟨b, o + 2, none⟩) hl).trans h.2.2.1, (hb.cell (p := ⟨b, o + 3, none⟩) hl).trans h.2.2.2⟩
set_option maxRecDepth 100000 in
set_option maxHeartbeats 16000000 in
theorem pcompare_any (a b : HV) (w : World) : Calls Tryz.prog 38 #[a.val, b.val] w (RetE (.int .i64 (cmpH a b)) w) := by
  have HC := Lib.hid (fun W => icompare_any a.k b.k W)
  have HA := Lib.hid (fun W h1 h2 => scompare_any a.a0 a.a1 a.a2 a.a3 b.a0 b.a1 b.a2 b.a3 w.heap.size 3 (w.heap.size + 1) 3 W h1 h2)
  have HT := Lib.hid (fun W h1 h2 => scompare_any a.b0 a.b1 a.b2 a.b3 b.b0 b.b1 b.b2 b.b3 w.heap.size 7 (w.heap.size + 1) 7 W h1 h2)
  go_enter Tryz.func38, Tryz.ntmps38
  go_wp2_with fail
  refine gen_world (fun W2 => Below w.heap.size w W2 ∧ w.drawn ≤ W2.drawn ∧ w.heap.size + 1 < W2.heap.size ∧ W2.cell? ⟨w.heap.size, 1, none⟩ = some (.int .i64 a.k) ∧ W2.cell? ⟨w.heap.size + 1, 1, none⟩ = some (.int .i64 b.k) ∧
    ints4 W2 w.heap.size 3 a.a0 a.a1 a.a2 a.a3 ∧ ints4 W2 (w.heap.size + 1) 3 b.a0 b.a1 b.a2 b.a3 ∧ ints4 W2 w.heap.size 7 a.b0 a.b1 a.b2 a.b3 ∧ ints4 W2 (w.heap.size + 1) 7 b.b0 b.b1 b.b2 b.b3)
    ⟨by repeat' (first | (with_reducible first | exact Below.refl _ _ | apply Below.drew | apply Below.alloc) | (simp; done) | (simp; omega)), by simp only [drawn_allocE]; omega, by simp, by go_cell, by go_cell, ⟨by go_cell, by go_cell, by go_cell, by go_cell⟩, ⟨by go_cell, by go_cell, by go_cell, by go_cell⟩, ⟨by go_cell, by go_cell, by go_cell, by go_cell⟩, ⟨by go_cell, by go_cell, by go_cell, by go_cell⟩⟩ ?_
  rintro w2 ⟨hB, hD, hz, p0, q0, pa, qa, pt, qt⟩
  have D0 : w.heap.size ≠ w2.heap.size := by omega
  have D1 : w.heap.size + 1 ≠ w2.heap.size := by omega
  have hz0 := hB.size
  have HB := Lib.hid hB
  clear hB
  go_wp2_with fail
  have hr : orI (cmpI a.k b.k) (orI (lexI [a.a0, a.a1, a.a2, a.a3] [b.a0, b.a1, b.a2, b.a3]) (lexI [a.b0, a.b1, a.b2, a.b3] [b.b0, b.b1, b.b2, b.b3])) = cmpH a b := rfl
  have hA2 : Hid (∀ W, Below w2.heap.size w2 W → Calls Tryz.prog 72 #[.slice (some ⟨w.heap.size, 3, none⟩) 4 4, .slice (some ⟨w.heap.size + 1, 3, none⟩) 4 4] W fun e w'' => e = .returned (.int .i64 (lexI [a.a0, a.a1, a.a2, a.a3] [b.a0, b.a1, b.a2, b.a3])) ∧ Rel true W w'') := fun W hW => (HA.out W (ints4_below pa hW (by omega)) (ints4_below qa hW hz)).mono fun e w' h => ⟨h.1, by rw [h.2]; exact Rel.refl _ _⟩
  have hT2 : Hid (∀ W, Below w2.heap.size w2 W → Calls Tryz.prog 72 #[.slice (some ⟨w.heap.size, 7, none⟩) 4 4, .slice (some ⟨w.heap.size + 1, 7, none⟩) 4 4] W fun e w'' => e = .returned (.int .i64 (lexI [a.b0, a.b1, a.b2, a.b3] [b.b0, b.b1, b.b2, b.b3])) ∧ Rel true W w'') := fun W hW => (HT.out W (ints4_below pt hW (by omega)) (ints4_below qt hW hz)).mono fun e w' h => ⟨h.1, by rw [h.2]; exact Rel.refl _ _⟩
  have hC2 : Hid (∀ W, Calls Tryz.prog 71 #[.int .i64 a.k, .int .i64 b.k] W fun e w'' => e = .returned (.int .i64 (cmpI a.k b.k)) ∧ Rel true W w'') := fun W => (HC.out W).mono fun e w' h => ⟨h.1, by rw [h.2]; exact Rel.refl _ _⟩
  generalize cmpI a.k b.k = x at hr hC2
  generalize lexI [a.a0, a.a1, a.a2, a.a3] [b.a0, b.a1, b.a2, b.a3] = y at hr hA2
  generalize lexI [a.b0, a.b1, a.b2, a.b3] [b.b0, b.b1, b.b2, b.b3] = z at hr hT2
  generalize hg : cmpH a b = r at hr ⊢
  have HR := Lib.hid hr
  clear HA HT HC pa qa pt qt hr
  refine wp_region_float (ka := 15) (ks := 16) (d := 20) (oa := _) (os := _) (ta := [9, 14, 19]) (ts := []) (pv := fun b => .slice (some ⟨b, 0, none⟩) 3 3) (us := .int .i64 r) (B1 := fun b W => W.heap[b]? = some (.cells #[.int .i64 x, .int .i64 y, .int .i64 z] 3 (0, 0))) (B2 := fun _ W => True) (fin := ?fin) (m := true) (by kernel_rfl) rfl rfl rfl rfl rfl (by kernel_rfl) (by kernel_rfl) (by simp) ?st1 ?st2 ?ha ?hs ?h ?hQ
  case h =>
    intro V hV
    simp only [flo, List.set_cons_succ, List.set_cons_zero]
    have e0 := fun p : Bd true V => bd_cell ((hV.1.cell (p := ⟨w.heap.size, 1, none⟩) (by show w.heap.size < w2.heap.size; omega)).trans p0) p
    have e1 := fun p : Bd true V => bd_cell ((hV.1.cell (p := ⟨w.heap.size + 1, 1, none⟩) hz).trans q0) p
    have hA3 : Hid (∀ p : Bd true V, Calls Tryz.prog 72 #[.slice (some ⟨w.heap.size, 3, none⟩) 4 4, .slice (some ⟨w.heap.size + 1, 3, none⟩) 4 4] p.w fun e w'' => e = .returned (.int .i64 y) ∧ Rel true p.w w'') := fun p => hA2.out _ ((hV.trans p.h).1)
    have hT3 : Hid (∀ p : Bd true V, Calls Tryz.prog 72 #[.slice (some ⟨w.heap.size, 7, none⟩) 4 4, .slice (some ⟨w.heap.size + 1, 7, none⟩) 4 4] p.w fun e w'' => e = .returned (.int .i64 z) ∧ Rel true p.w w'') := fun p => hT2.out _ ((hV.trans p.h).1)
    repeat (first | go_big_quiet_step (first | (with_reducible exact Calls.bdm (hC2.out _)) | (with_reducible exact Calls.bdm (hA3.out _)) | (with_reducible exact Calls.bdm (hT3.out _))) | quiet_step (first | (with_reducible exact Calls.bdm (hC2.out _)) | (with_reducible exact Calls.bdm (hA3.out _)) | (with_reducible exact Calls.bdm (hT3.out _))))
    refine wpQuiet_nil ?_
    rfl
  case st1 => exact fun b W W' h hb => (hb.block b (Array.getElem?_eq_some_iff.1 h).1).trans h
  case st2 => exact fun _ _ _ _ _ => trivial
  case ha =>
    intro ρ W hag
    have h9 := hag 9 (by simp)
    have h14 := hag 14 (by simp)
    have h19 := hag 19 (by simp)
    refine ⟨W.alloc (.cells #[.int .i64 x, .int .i64 y, .int .i64 z] 3), ?_, ⟨(Below.refl _ _).alloc (Nat.le_refl _) _, fun _ => Nat.le_refl _⟩, heap_alloc_new W _⟩
    simp only [Act.eval] at h9 h14 h19
    simp [execOp, h9, h14, h19, go_sem]
  case hs =>
    intro c W b K hb hB h1 hd _ hK
    have q0 : W.cell? ⟨b, 0, none⟩ = some (.int .i64 x) := by simp [World.cell?, h1]
    have q1 : W.cell? ⟨b, 1, none⟩ = some (.int .i64 y) := by simp [World.cell?, h1]
    have q2 : W.cell? ⟨b, 2, none⟩ = some (.int .i64 z) := by simp [World.cell?, h1]
    have hc := or3_any x y z b W q0 q1 q2
    have hd' : c.tmps[20]?.getD undef = .slice (some ⟨b, 0, none⟩) 3 3 := by simpa [Act.eval] using hd
    unfold Oper.wp
    simp [execOp, hd, go_sem]
    rw [hd']
    refine hc.mono ?_
    rintro e w' ⟨rfl, rfl⟩
    rw [HR.out]
    exact hK _ hB trivial
  case hQ =>
    intro b W hb hB _
    simp only [Act.put, List.setIfInBounds_toArray, List.set_cons_succ, List.set_cons_zero]
    go_wp2
    go_returns
    exact ⟨by rw [hg]; rfl, bstep HB.out hB.1 hz0, Nat.le_trans hD (hB.2 rfl)⟩
end Go.Proofs.YtjaahmgokiobjaaGreat
namespace Go.Proofs.YtjaahmgokiobjaaGreat
open Go.RowKit
set_option linter.unusedVariables false
set_option linter.unusedSimpArgs false
attribute [local go_sem] ix4_0 ix4_1 ix4_2 ix4_3

set_option maxHeartbeats 2000000 in
theorem right_exact (d c0 c1 c2 c3 : Int) (w : World) :
    Calls Tryz.prog 41 #[.agg #[.int .i64 d, .int .i64 c0, .int .i64 c1, .int .i64 c2, .int .i64 c3]] w (fun e w' => e = .returned (.bool (rightB d c0 c1 c2 c3)) ∧ w' = w.alloc (.cells #[.int .i64 d, .int .i64 c0, .int .i64 c1, .int .i64 c2, .int .i64 c3] 29)) := by
  by_cases hb : 1 ≤ d ∧ d ≤ 4
  · obtain ⟨hd, hd4⟩ := hb
    go_enter Tryz.func41, Tryz.ntmps41
    go_wp2
    refine wp_loop_rounds 5 ?_
    repeat any_goals (rw [rounds_succ]; go_wp2_with (go_at_call 74; refine (greatest_any _ _ _).mono ?_; rintro e w' ⟨rfl, rfl⟩))
    all_goals go_returns
    all_goals (refine ⟨ret_bool ?_, rfl⟩)
    all_goals (simp only [rightB, rightP]; first | (apply Eq.symm; apply decide_eq_true; omega) | (apply Eq.symm; apply decide_eq_false; omega))
  · go_enter Tryz.func41, Tryz.ntmps41
    have hr : rightB d c0 c1 c2 c3 = false := by simp only [rightB, rightP]; exact decide_eq_false (by omega)
    rw [hr]
    by_cases h1 : d < 1
    · go_wp2
      all_goals go_returns
      all_goals exact ⟨rfl, rfl⟩
    · have h4 : 4 < d := by omega
      go_wp2
      all_goals go_returns
      all_goals exact ⟨rfl, rfl⟩
end Go.Proofs.YtjaahmgokiobjaaGreat
namespace Go.Proofs.YtjaahmgokiobjaaGreat
open Go.RowKit
set_option linter.unusedVariables false
set_option linter.unusedSimpArgs false
attribute [local go_sem ↓] run_imax run_imin

/-- the call returns the value v, old memory is as it was, and draws are not taken back -/
def RetD (v : Value) (w : World) (e : Ending) (w' : World) : Prop := e = .returned v ∧ Below w.heap.size w w' ∧ w.drawn ≤ w'.drawn
theorem RetD.ret {v : Value} {w : World} {e : Ending} {w' : World} (h : RetD v w e w') : Ret v w e w' := ⟨h.1, h.2.1⟩
theorem drawn_alloc (w : World) (o : Obj) : (w.alloc o).drawn = w.drawn := rfl
theorem drawn_drew (w : World) : w.drew.drawn = w.drawn + 1 := rfl
theorem drawn_drewN (w : World) (n : Nat) : (w.drewN n).drawn = w.drawn + n := rfl
theorem drawn_setCell (w : World) (a : Addr) (v : Value) : (w.setCell a v).drawn = w.drawn := rfl
theorem ret_boolD {a b : Bool} {w w' : World} (h : a = b) (hb : Below w.heap.size w w') (hd : w.drawn ≤ w'.drawn) : RetD (.bool b) w (.returned (.bool a)) w' := ⟨by rw [h], hb, hd⟩

set_option maxHeartbeats 4000000 in
theorem less_drawn (d c0 c1 c2 c3 e0 x0 x1 x2 x3 : Int) (w : World) :
    Calls Tryz.prog 102 #[.agg #[.int .i64 d, .int .i64 c0, .int .i64 c1, .int .i64 c2, .int .i64 c3], .agg #[.int .i64 e0, .int .i64 x0, .int .i64 x1, .int .i64 x2, .int .i64 x3]] w (RetD (.bool (lessB d c0 c1 c2 c3 e0 x0 x1 x2 x3)) w) := by
  cases hp : rightB d c0 c1 c2 c3
  · have he : lessB d c0 c1 c2 c3 e0 x0 x1 x2 x3 = false := by simp [lessB, hp]
    rw [he]; clear he
    go_enter Tryz.func102, Tryz.ntmps102
    go_wp2_with fail
    refine (right_exact _ _ _ _ _ _).mono ?_
    rintro e w1 ⟨rfl, rfl⟩
    go_wp2
    go_returns
    exact ret_boolD rfl (by repeat' (first | (with_reducible refine below_drewN ?_ _) | go_grown)) (by simp only [drawn_alloc, drawn_drew, drawn_drewN]; omega)
  · cases hp2 : rightB e0 x0 x1 x2 x3
    · have he : lessB d c0 c1 c2 c3 e0 x0 x1 x2 x3 = false := by simp [lessB, hp2]
      rw [he]; clear he
      go_enter Tryz.func102, Tryz.ntmps102
      go_wp2_with fail
      refine (right_exact _ _ _ _ _ _).mono ?_
      rintro e w1 ⟨rfl, rfl⟩
      go_wp2_with fail
      refine (right_exact _ _ _ _ _ _).mono ?_
      rintro e w2 ⟨rfl, rfl⟩
      go_wp2
      go_returns
      exact ret_boolD rfl (by repeat' (first | (with_reducible refine below_drewN ?_ _) | go_grown)) (by simp only [drawn_alloc, drawn_drew, drawn_drewN]; omega)
    · have he : lessB d c0 c1 c2 c3 e0 x0 x1 x2 x3 = lexB d c0 c1 c2 c3 e0 x0 x1 x2 x3 := by simp [lessB, hp2, hp]
      rw [he]; clear he
      have hm : imin d e0 ≤ 4 := imin_le d e0 (right_of hp).2.1
      go_enter Tryz.func102, Tryz.ntmps102
      go_wp2_with fail
      refine (right_exact _ _ _ _ _ _).mono ?_
      rintro e w1 ⟨rfl, rfl⟩
      go_wp2_with fail
      refine (right_exact _ _ _ _ _ _).mono ?_
      rintro e w2 ⟨rfl, rfl⟩
      go_wp2
      refine wp_loop_rounds 5 ?_
      by_cases hk0 : 0 < imin d e0
      · by_cases he0 : c0 = x0
        · have hn0 : (c0 != x0) = false := by simp [he0]
          have He0 := Lib.hid he0; clear he0
          rw [rounds_succ]; go_wp2
          go_quiet (fail)
          go_wp2
          by_cases hk1 : 1 < imin d e0
          · by_cases he1 : c1 = x1
            · have hn1 : (c1 != x1) = false := by simp [he1]
              have He1 := Lib.hid he1; clear he1
              rw [rounds_succ]; go_wp2
              go_quiet (fail)
              go_wp2
              by_cases hk2 : 2 < imin d e0
              · by_cases he2 : c2 = x2
                · have hn2 : (c2 != x2) = false := by simp [he2]
                  have He2 := Lib.hid he2; clear he2
                  rw [rounds_succ]; go_wp2
                  go_quiet (fail)
                  go_wp2
                  by_cases hk3 : 3 < imin d e0
                  · by_cases he3 : c3 = x3
                    · have hn3 : (c3 != x3) = false := by simp [he3]
                      have He3 := Lib.hid he3; clear he3
                      rw [rounds_succ]; go_wp2
                      go_quiet (fail)
                      go_wp2
                      rw [rounds_succ]; go_wp2
                      go_returns
                      exact ret_boolD (by unfold lexB; rw [if_neg (fun h => h.2 (by simpa using hn0)), if_neg (fun h => h.2 (by simpa using hn1)), if_neg (fun h => h.2 (by simpa using hn2)), if_neg (fun h => h.2 (by simpa using hn3))]) (by repeat' (first | (with_reducible refine below_drewN ?_ _) | go_grown)) (by simp only [drawn_alloc, drawn_drew, drawn_drewN]; omega)
                    · have hn3 : (c3 != x3) = true := by simp [he3]
                      rw [rounds_succ]; go_wp2
                      go_quiet (fail)
                      go_wp2
                      go_quiet (fail)
                      go_wp2
                      go_returns
                      exact ret_boolD (by unfold lexB; rw [if_neg (fun h => h.2 (by simpa using hn0)), if_neg (fun h => h.2 (by simpa using hn1)), if_neg (fun h => h.2 (by simpa using hn2)), if_pos ⟨hk3, by simpa using hn3⟩]) (by repeat' (first | (with_reducible refine below_drewN ?_ _) | go_grown)) (by simp only [drawn_alloc, drawn_drew, drawn_drewN]; omega)
                  · rw [rounds_succ]; go_wp2
                    go_returns
                    exact ret_boolD (by unfold lexB; rw [if_neg (fun h => h.2 (by simpa using hn0)), if_neg (fun h => h.2 (by simpa using hn1)), if_neg (fun h => h.2 (by simpa using hn2)), if_neg (fun h => absurd h.1 (by omega))]) (by repeat' (first | (with_reducible refine below_drewN ?_ _) | go_grown)) (by simp only [drawn_alloc, drawn_drew, drawn_drewN]; omega)
                · have hn2 : (c2 != x2) = true := by simp [he2]
                  rw [rounds_succ]; go_wp2
                  go_quiet (fail)
                  go_wp2
                  go_quiet (fail)
                  go_wp2
                  go_returns
                  exact ret_boolD (by unfold lexB; rw [if_neg (fun h => h.2 (by simpa using hn0)), if_neg (fun h => h.2 (by simpa using hn1)), if_pos ⟨hk2, by simpa using hn2⟩]) (by repeat' (first | (with_reducible refine below_drewN ?_ _) | go_grown)) (by simp only [drawn_alloc, drawn_drew, drawn_drewN]; omega)
              · rw [rounds_succ]; go_wp2
                go_returns
                exact ret_boolD (by unfold lexB; rw [if_neg (fun h => h.2 (by simpa using hn0)), if_neg (fun h => h.2 (by simpa using hn1)), if_neg (fun h => absurd h.1 (by omega)), if_neg (fun h => absurd h.1 (by omega))]) (by repeat' (first | (with_reducible refine below_drewN ?_ _) | go_grown)) (by simp only [drawn_alloc, drawn_drew, drawn_drewN]; omega)
            · have hn1 : (c1 != x1) = true := by simp [he1]
              rw [rounds_succ]; go_wp2
              go_quiet (fail)
              go_wp2
              go_quiet (fail)
              go_wp2
              go_returns
              exact ret_boolD (by unfold lexB; rw [if_neg (fun h => h.2 (by simpa using hn0)), if_pos ⟨hk1, by simpa using hn1⟩]) (by repeat' (first | (with_reducible refine below_drewN ?_ _) | go_grown)) (by simp only [drawn_alloc, drawn_drew, drawn_drewN]; omega)
          · rw [rounds_succ]; go_wp2
            go_returns
            exact ret_boolD (by unfold lexB; rw [if_neg (fun h => h.2 (by simpa using hn0)), if_neg (fun h => absurd h.1 (by omega)), if_neg (fun h => absurd h.1 (by omega)), if_neg (fun h => absurd h.1 (by omega))]) (by repeat' (first | (with_reducible refine below_drewN ?_ _) | go_grown)) (by simp only [drawn_alloc, drawn_drew, drawn_drewN]; omega)
        · have hn0 : (c0 != x0) = true := by simp [he0]
          rw [rounds_succ]; go_wp2
          go_quiet (fail)
          go_wp2
          go_quiet (fail)
          go_wp2
          go_returns
          exact ret_boolD (by unfold lexB; rw [if_pos ⟨hk0, by simpa using hn0⟩]) (by repeat' (first | (with_reducible refine below_drewN ?_ _) | go_grown)) (by simp only [drawn_alloc, drawn_drew, drawn_drewN]; omega)
      · rw [rounds_succ]; go_wp2
        go_returns
        exact ret_boolD (by unfold lexB; rw [if_neg (fun h => absurd h.1 (by omega)), if_neg (fun h => absurd h.1 (by omega)), if_neg (fun h => absurd h.1 (by omega)), if_neg (fun h => absurd h.1 (by omega))]) (by repeat' (first | (with_reducible refine below_drewN ?_ _) | go_grown)) (by simp only [drawn_alloc, drawn_drew, drawn_drewN]; omega)
end Go.Proofs.YtjaahmgokiobjaaGreat
namespace Go.Proofs.YtjaahmgokiobjaaGreat
open Go.RowKit Go.Sort
set_option linter.unusedVariables false
set_option linter.unusedSimpArgs false

/- the comparison that the sort is given -/
theorem grow_of_below {w w' : World} (h : Below w.heap.size w w') (hd : w.drawn ≤ w'.drawn) : ∃ q os', w' = grow (w.drewN q) os' := by
  refine ⟨w'.drawn - w.drawn, w'.heap.extract w.heap.size w'.heap.size, ?_⟩
  obtain ⟨h1, h2, h3, h4, h5⟩ := h
  obtain ⟨hp, tp, dr, os, out⟩ := w
  obtain ⟨hp', tp', dr', os', out'⟩ := w'
  simp only at h1 h2 h3 h4 h5 hd
  subst h1 h2 h3
  unfold grow World.drewN
  simp only [World.mk.injEq, true_and, and_true]
  refine ⟨?_, by omega⟩
  refine Array.ext_getElem? fun i => ?_
  rw [Array.getElem?_append]
  split
  · exact h5 i (by assumption)
  · rename_i hi
    rw [Array.getElem?_extract]
    split
    · congr 1; omega
    · rw [Array.getElem?_eq_none (by omega)]

theorem lt_any (a b : TV) (W : World) : Calls Tryz.prog 102 #[a.val, b.val] W (RetD (.bool (a.lt b)) W) := less_drawn _ _ _ _ _ _ _ _ _ _ W
def cmpT (a b : TV) : Int := if a.lt b then -1 else if b.lt a then 1 else 0
set_option maxHeartbeats 2000000 in
theorem compare_any (a b : TV) (w : World) : Calls Tryz.prog 76 #[a.val, b.val] w (RetD (.int .i64 (cmpT a b)) w) := by
  have H1 : Hid (∀ W, Calls Tryz.prog 102 #[a.val, b.val] W (RetD (.bool (a.lt b)) W)) := lt_any a b
  have H2 : Hid (∀ W, Calls Tryz.prog 102 #[b.val, a.val] W (RetD (.bool (b.lt a)) W)) := lt_any b a
  have hc : cmpT a b = if a.lt b then -1 else if b.lt a then 1 else 0 := rfl
  generalize cmpT a b = r at hc ⊢
  generalize a.lt b = l1 at H1 hc
  generalize b.lt a = l2 at H2 hc
  have HC := Lib.hid hc; clear hc
  go_enter Tryz.func76, Tryz.ntmps76
  go_wp2_with fail
  refine (H1.out _).mono ?_
  rintro e w1 ⟨rfl, hb1, hd1⟩
  have hz := hb1.size
  have hB := bcall (B := w.heap.size) (a := w) (by go_grown) hb1 (by go_size)
  have hP := ((Own5.new w (.int .i64 a.d) (.int .i64 a.c0) (.int .i64 a.c1) (.int .i64 a.c2) (.int .i64 a.c3) 29).alloc _ (by go_size)).below hb1 (by go_size)
  have hA := (Own5.new _ (.int .i64 b.d) (.int .i64 b.c0) (.int .i64 b.c1) (.int .i64 b.c2) (.int .i64 b.c3) 29).below hb1 (by go_size)
  have hd : w.drawn ≤ w1.drawn := hd1
  obtain ⟨p0, p1, p2, p3, p4, q0, q1, q2, q3, q4⟩ := hP
  obtain ⟨a0, a1, a2, a3, a4, b0, b1, b2, b3, b4⟩ := hA
  simp only [World.size_alloc] at *
  clear hb1 hd1
  cases l1
  · go_wp2_with fail
    refine (H2.out _).mono ?_
    rintro e w2 ⟨rfl, hb2, hd2⟩
    have hB2 := bcall hB hb2 hB.size
    have hdd : w.drawn ≤ w2.drawn := Nat.le_trans hd hd2
    cases l2
    · skip
      go_wp2
      go_returns
      exact ⟨by rw [HC.out]; rfl, hB2, hdd⟩
    · skip
      go_wp2
      go_returns
      exact ⟨by rw [HC.out]; rfl, hB2, hdd⟩
  · skip
    go_wp2
    go_returns
    exact ⟨by rw [HC.out]; rfl, hB, hd⟩
end Go.Proofs.YtjaahmgokiobjaaGreat
