/- the program's order of two mailboxes: cmp.Compare, cmp.Or, net.order -/
import Derived.Test.YtdgnblkoohakeaaUb
import Derived.Test.YtdgnblkoohakeaaRf
import Derived.Deep.CutRange
namespace Go.Proofs.Ytdgnblkoohakeaa
open Go.RowKit
set_option linter.unusedVariables false
set_option linter.unusedSimpArgs false

def RetU (v : Value) (w : World) (e : Ending) (w' : World) : Prop := e = .returned v ∧ w' = w
def cmpU (a b : Int) : Int := if a < b then -1 else if b < a then 1 else 0
def orU (a b : Int) : Int := if a ≠ 0 then a else b
def ordU (e f t e' f' t' : Int) : Int := orU (cmpU e e') (orU (cmpU f f') (cmpU t t'))
def ordB (a b : BV) : Int := ordU a.e a.f a.t b.e b.f b.t
theorem ordB_lt (a b : BV) : ordB a b < 0 ↔ aheadB a b = true := by
  rw [aheadB_iff]
  unfold ordB ordU orU cmpU
  (repeat' split) <;> omega
theorem ordB_zero (a b : BV) : ordB a b = 0 ↔ isB a b.e b.f b.t = true := by
  rw [isB_iff]
  unfold ordB ordU orU cmpU
  (repeat' split) <;> omega
theorem unan_any (a : Int) (w : World) : Calls Try.prog 36 #[.int .i64 a] w (RetU (.bool false) w) := by
  go_enter Try.func36, Try.ntmps36
  go_wp2
  go_returns
  exact ⟨by simp, rfl⟩
theorem ucompare_any (a b : Int) (w : World) : Calls Try.prog 34 #[.int .i64 a, .int .i64 b] w (RetU (.int .i64 (cmpU a b)) w) := by
  have HA := Lib.hid (fun W => unan_any a W)
  have HB := Lib.hid (fun W => unan_any b W)
  by_cases h1 : a < b
  · have hc : cmpU a b = -1 := by unfold cmpU; rw [if_pos h1]
    rw [hc]; clear hc
    go_enter Try.func34, Try.ntmps34
    go_wp2_with fail
    refine (HA.out _).mono ?_
    rintro e w1 ⟨rfl, rfl⟩
    go_wp2_with fail
    refine (HB.out _).mono ?_
    rintro e w1 ⟨rfl, rfl⟩
    go_wp2
    go_returns
    exact ⟨rfl, rfl⟩
  · by_cases h2 : b < a
    · have hc : cmpU a b = 1 := by unfold cmpU; rw [if_neg h1, if_pos h2]
      rw [hc]; clear hc
      go_enter Try.func34, Try.ntmps34
      go_wp2_with fail
      refine (HA.out _).mono ?_
      rintro e w1 ⟨rfl, rfl⟩
      go_wp2_with fail
      refine (HB.out _).mono ?_
      rintro e w1 ⟨rfl, rfl⟩
      go_wp2
      go_returns
      exact ⟨rfl, rfl⟩
    · have hc : cmpU a b = 0 := by unfold cmpU; rw [if_neg h1, if_neg h2]
      rw [hc]; clear hc
      go_enter Try.func34, Try.ntmps34
      go_wp2_with fail
      refine (HA.out _).mono ?_
      rintro e w1 ⟨rfl, rfl⟩
      go_wp2_with fail
      refine (HB.out _).mono ?_
      rintro e w1 ⟨rfl, rfl⟩
      go_wp2
      go_returns
      exact ⟨rfl, rfl⟩
set_option maxRecDepth 100000 in
set_option maxHeartbeats 4000000 in
theorem uor3_any (a b c : Int) (g : Nat) (w : World) (h0 : w.cell? ⟨g, 0, none⟩ = some (.int .i64 a)) (h1 : w.cell? ⟨g, 1, none⟩ = some (.int .i64 b)) (h2 : w.cell? ⟨g, 2, none⟩ = some (.int .i64 c)) :
    Calls Try.prog 33 #[.slice (some ⟨g, 0, none⟩) 3 3] w (RetU (.int .i64 (orU a (orU b c))) w) := by
  by_cases ha : a = 0
  · rw [show orU a (orU b c) = orU b c from if_neg (by simpa using ha)]
    subst ha
    by_cases hb : b = 0
    · rw [show orU b c = c from if_neg (by simpa using hb)]
      subst hb
      by_cases hc : c = 0
      · subst hc
        go_enter Try.func33, Try.ntmps33
        go_wp2
        refine wp_loop_rounds 4 ?_
        rw [rounds_succ]
        go_wp2
        rw [rounds_succ]
        go_wp2
        rw [rounds_succ]
        go_wp2
        rw [rounds_succ]
        go_wp2
        go_returns
        exact ⟨rfl, rfl⟩
      · have hcb : (c != 0) = true := by simp [hc]
        go_enter Try.func33, Try.ntmps33
        go_wp2
        refine wp_loop_rounds 4 ?_
        rw [rounds_succ]
        go_wp2
        rw [rounds_succ]
        go_wp2
        rw [rounds_succ]
        go_wp2
        go_returns
        exact ⟨rfl, rfl⟩
    · rw [show orU b c = b from if_pos (by simpa using hb)]
      have hbb : (b != 0) = true := by simp [hb]
      go_enter Try.func33, Try.ntmps33
      go_wp2
      refine wp_loop_rounds 4 ?_
      rw [rounds_succ]
      go_wp2
      rw [rounds_succ]
      go_wp2
      go_returns
      exact ⟨rfl, rfl⟩
  · have hab : (a != 0) = true := by simp [ha]
    rw [show orU a (orU b c) = a from if_pos (by simpa using ha)]
    clear ha
    go_enter Try.func33, Try.ntmps33
    go_wp2
    refine wp_loop_rounds 4 ?_
    rw [rounds_succ]
    go_wp2
    go_returns
    exact ⟨rfl, rfl⟩
set_option maxRecDepth 100000 in
set_option maxHeartbeats 16000000 in
theorem uorder_any (e f t : Int) (l : Value) (e' f' t' : Int) (l' : Value) (w : World) : Calls Try.prog 25 #[.agg #[.int .i64 e, .int .i64 f, .int .i64 t, l], .agg #[.int .i64 e', .int .i64 f', .int .i64 t', l']] w (Ret (.int .i64 (ordU e f t e' f' t')) w) := by
  have HC1 := Lib.hid (fun W => ucompare_any e e' W)
  have HC2 := Lib.hid (fun W => ucompare_any f f' W)
  have HC3 := Lib.hid (fun W => ucompare_any t t' W)
  go_enter Try.func25, Try.ntmps25
  go_upto_region 1 with (fail)
  refine gen_world (fun W2 => Below w.heap.size w W2 ∧ w.heap.size + 1 < W2.heap.size ∧ W2.cell? ⟨w.heap.size, 0, none⟩ = some (.int .i64 e) ∧ W2.cell? ⟨w.heap.size, 1, none⟩ = some (.int .i64 f) ∧ W2.cell? ⟨w.heap.size, 2, none⟩ = some (.int .i64 t) ∧ W2.cell? ⟨w.heap.size + 1, 0, none⟩ = some (.int .i64 e') ∧ W2.cell? ⟨w.heap.size + 1, 1, none⟩ = some (.int .i64 f') ∧ W2.cell? ⟨w.heap.size + 1, 2, none⟩ = some (.int .i64 t'))
    ⟨by repeat' (first | (with_reducible first | exact Below.refl _ _ | apply Below.drew | apply Below.alloc) | (simp; done) | (simp; omega)), by simp, by simp, by simp, by simp, by simp, by simp, by simp⟩ ?_
  rintro w2 ⟨hB, hz, p0, p1, p2, q0, q1, q2⟩
  have hz0 := hB.size
  have HB := Lib.hid hB
  clear hB
  have hr : orU (cmpU e e') (orU (cmpU f f') (cmpU t t')) = ordU e f t e' f' t' := rfl
  have hA2 : Hid (∀ W, Calls Try.prog 34 #[.int .i64 e, .int .i64 e'] W fun x w'' => x = .returned (.int .i64 (cmpU e e')) ∧ Rel true W w'') := fun W => (HC1.out W).mono fun x w' h => ⟨h.1, by rw [h.2]; exact Rel.refl _ _⟩
  have hB2 : Hid (∀ W, Calls Try.prog 34 #[.int .i64 f, .int .i64 f'] W fun x w'' => x = .returned (.int .i64 (cmpU f f')) ∧ Rel true W w'') := fun W => (HC2.out W).mono fun x w' h => ⟨h.1, by rw [h.2]; exact Rel.refl _ _⟩
  have hC2 : Hid (∀ W, Calls Try.prog 34 #[.int .i64 t, .int .i64 t'] W fun x w'' => x = .returned (.int .i64 (cmpU t t')) ∧ Rel true W w'') := fun W => (HC3.out W).mono fun x w' h => ⟨h.1, by rw [h.2]; exact Rel.refl _ _⟩
  generalize cmpU e e' = x at hr hA2
  generalize cmpU f f' = y at hr hB2
  generalize cmpU t t' = z at hr hC2
  generalize hg : ordU e f t e' f' t' = r at hr ⊢
  have HR := Lib.hid hr
  clear HC1 HC2 HC3 hr
  go_wp2_with fail
  refine wp_region_float (ka := 15) (ks := 16) (d := 20) (oa := _) (os := _) (ta := [9, 14, 19]) (ts := []) (pv := fun b => .slice (some ⟨b, 0, none⟩) 3 3) (us := .int .i64 r) (B1 := fun b W => W.heap[b]? = some (.cells #[.int .i64 x, .int .i64 y, .int .i64 z] 3 (0, 0))) (B2 := fun _ W => True) (fin := ?fin) (m := true) (by kernel_rfl) rfl rfl rfl rfl rfl (by kernel_rfl) (by kernel_rfl) (by simp) ?st1 ?st2 ?ha ?hs ?h ?hQ
  case h =>
    intro V hV
    simp only [flo, List.set_cons_succ, List.set_cons_zero]
    have e0 := fun p : Bd true V => bd_cell ((hV.1.cell (p := ⟨w.heap.size, 0, none⟩) (by show w.heap.size < w2.heap.size; omega)).trans p0) p
    have e1 := fun p : Bd true V => bd_cell ((hV.1.cell (p := ⟨w.heap.size, 1, none⟩) (by show w.heap.size < w2.heap.size; omega)).trans p1) p
    have e2 := fun p : Bd true V => bd_cell ((hV.1.cell (p := ⟨w.heap.size, 2, none⟩) (by show w.heap.size < w2.heap.size; omega)).trans p2) p
    have f0 := fun p : Bd true V => bd_cell ((hV.1.cell (p := ⟨w.heap.size + 1, 0, none⟩) hz).trans q0) p
    have f1 := fun p : Bd true V => bd_cell ((hV.1.cell (p := ⟨w.heap.size + 1, 1, none⟩) hz).trans q1) p
    have f2 := fun p : Bd true V => bd_cell ((hV.1.cell (p := ⟨w.heap.size + 1, 2, none⟩) hz).trans q2) p
    repeat (first | go_big_quiet_step (first | (with_reducible exact Calls.bdm (hA2.out _)) | (with_reducible exact Calls.bdm (hB2.out _)) | (with_reducible exact Calls.bdm (hC2.out _))) | quiet_step (first | (with_reducible exact Calls.bdm (hA2.out _)) | (with_reducible exact Calls.bdm (hB2.out _)) | (with_reducible exact Calls.bdm (hC2.out _))))
    refine wpQuiet_nil ?_
    rfl
  case st1 => exact fun b W W' h hb => (hb.block b (Array.getElem?_eq_some_iff.1 h).1).trans h
  case st2 => exact fun _ _ _ _ _ => trivial
  case ha =>
    intro ρ W hag
    have h9 := hag 9 (by simp)
    have h14 := hag 14 (by simp)
    have h19 := hag 19 (by simp)
    refine ⟨W.alloc (.cells #[.int .i64 x, .int .i64 y, .int .i64 z] 3), ?_, ⟨(Below.refl _ _).alloc (Nat.le_refl _) _, fun _ => Nat.le_refl _⟩, heap_alloc_new W _⟩
    simp only [Act.eval] at h9 h14 h19
    simp [execOp, h9, h14, h19, go_sem]
  case hs =>
    intro c W b K hb hB h1 hd _ hK
    have q0 : W.cell? ⟨b, 0, none⟩ = some (.int .i64 x) := by simp [World.cell?, h1]
    have q1 : W.cell? ⟨b, 1, none⟩ = some (.int .i64 y) := by simp [World.cell?, h1]
    have q2 : W.cell? ⟨b, 2, none⟩ = some (.int .i64 z) := by simp [World.cell?, h1]
    have hc := uor3_any x y z b W q0 q1 q2
    have hd' : c.tmps[20]?.getD undef = .slice (some ⟨b, 0, none⟩) 3 3 := by simpa [Act.eval] using hd
    unfold Oper.wp
    simp [execOp, hd, go_sem]
    rw [hd']
    refine hc.mono ?_
    rintro e w' ⟨rfl, rfl⟩
    rw [HR.out]
    exact hK _ hB trivial
  case hQ =>
    intro b W hb hB _
    simp only [Act.put, List.setIfInBounds_toArray, List.set_cons_succ, List.set_cons_zero]
    go_wp2
    go_returns
    exact ⟨by rw [hg]; rfl, bstep HB.out hB.1 hz0⟩
end Go.Proofs.Ytdgnblkoohakeaa
