import Derived.Test.YtimfpbmlbihlnaaRb
import Derived.Test.YtimfpbmlbihlnaaTs4a
namespace Go.Proofs.Ytimfpbmlbihlnaa
open Go.RowKit
set_option linter.unusedVariables false
set_option linter.unusedSimpArgs false

def nth (xs : List Int) (i : Nat) : Int := xs.getD i 0
/-- the timestamp of these coordinates, if it is right -/
def ofB (xs : List Int) : Bool := rightB xs.length (nth xs 0) (nth xs 1) (nth xs 2) (nth xs 3)
def ofV (xs : List Int) : Value := stepV (ofB xs) xs.length (nth xs 0) (nth xs 1) (nth xs 2) (nth xs 3)
theorem ofV_no {xs : List Int} (h : ofB xs = false) : ofV xs = stepV false 0 0 0 0 0 := by unfold ofV; rw [h]; rfl

set_option maxHeartbeats 400000 in
theorem of_short (p : Option Addr) (cap : Nat) (w : World) : Calls Try.prog 19 #[.slice p 0 cap] w (Ret (stepV false 0 0 0 0 0) w) := by
  go_enter Try.func19, Try.ntmps19
  go_wp2
  exact bodyPost_ret (v := stepV false 0 0 0 0 0) (by simp [results, Try.results19, go_sem]; rfl) rfl ⟨rfl, by repeat' (first | (with_reducible refine below_drewN ?_ _) | go_grown)⟩

set_option maxHeartbeats 400000 in
theorem of_long (p : Option Addr) (n cap : Nat) (w : World) (hn : 5 ≤ n) (hm : n ≤ 1000000) : Calls Try.prog 19 #[.slice p n cap] w (Ret (stepV false 0 0 0 0 0) w) := by
  have h5 : (4 : Int) < n := by omega
  have h1 : ¬ (n : Int) < 1 := by omega
  go_enter Try.func19, Try.ntmps19
  go_wp2
  exact bodyPost_ret (v := stepV false 0 0 0 0 0) (by simp [results, Try.results19, go_sem]; rfl) rfl ⟨rfl, by repeat' (first | (with_reducible refine below_drewN ?_ _) | go_grown)⟩

set_option maxHeartbeats 2000000 in
theorem of_1 (g cap : Nat) (x0 : Int) (w : World) (hg : g < w.heap.size) (h0 : w.cell? ⟨g, 0, none⟩ = some (.int .i64 x0)) : Calls Try.prog 19 #[.slice (some ⟨g, 0, none⟩) 1 cap] w (Ret (stepV (rightB 1 x0 0 0 0) 1 x0 0 0 0) w) := by
  go_enter Try.func19, Try.ntmps19
  go_wp2
  refine wp_loop_rounds 2 ?_
  rw [rounds_succ]; go_wp2
  rw [rounds_succ]; go_wp2_with fail
  refine (list_any _ _ _ _ _ _).mono ?_
  rintro e w1 (⟨hr, v, rfl, _, hb1⟩ | ⟨hr, rfl, hb1⟩)
  · have hz := hb1.size
    have hB := bcall (B := w.heap.size) (a := w) (by go_grown) hb1 (by go_size)
    obtain ⟨r0, r1, r2, r3, r4, s0, s1, s2, s3, s4⟩ := ((Own5.new w (.int .i64 0) (.int .i64 0) (.int .i64 0) (.int .i64 0) (.int .i64 0) 26).alloc _ (by go_size)).below hb1 (by go_size)
    obtain ⟨p0, p1, p2, p3, p4, q0, q1, q2, q3, q4⟩ := (Own5.new _ (.int .i64 1) (.int .i64 x0) (.int .i64 0) (.int .i64 0) (.int .i64 0) 26).below hb1 (by go_size)
    simp only [World.size_alloc] at *
    clear hb1
    go_wp2
    rw [hr]
    exact bodyPost_ret (v := stepV true 1 x0 0 0 0) (by simp [results, Try.results19, go_sem, r0, r1, r2, r3, r4]; rfl) rfl ⟨rfl, by repeat' (first | (with_reducible refine below_drewN ?_ _) | go_grown)⟩
  · have hz := hb1.size
    have hB := bcall (B := w.heap.size) (a := w) (by go_grown) hb1 (by go_size)
    obtain ⟨r0, r1, r2, r3, r4, s0, s1, s2, s3, s4⟩ := ((Own5.new w (.int .i64 0) (.int .i64 0) (.int .i64 0) (.int .i64 0) (.int .i64 0) 26).alloc _ (by go_size)).below hb1 (by go_size)
    obtain ⟨p0, p1, p2, p3, p4, q0, q1, q2, q3, q4⟩ := (Own5.new _ (.int .i64 1) (.int .i64 x0) (.int .i64 0) (.int .i64 0) (.int .i64 0) 26).below hb1 (by go_size)
    simp only [World.size_alloc] at *
    clear hb1
    go_wp2
    rw [hr]
    exact bodyPost_ret (v := stepV false 0 0 0 0 0) (by simp [results, Try.results19, go_sem, r0, r1, r2, r3, r4]; rfl) rfl ⟨rfl, by repeat' (first | (with_reducible refine below_drewN ?_ _) | go_grown)⟩

set_option maxHeartbeats 2000000 in
theorem of_2 (g cap : Nat) (x0 x1 : Int) (w : World) (hg : g < w.heap.size) (h0 : w.cell? ⟨g, 0, none⟩ = some (.int .i64 x0)) (h1 : w.cell? ⟨g, 1, none⟩ = some (.int .i64 x1)) : Calls Try.prog 19 #[.slice (some ⟨g, 0, none⟩) 2 cap] w (Ret (stepV (rightB 2 x0 x1 0 0) 2 x0 x1 0 0) w) := by
  go_enter Try.func19, Try.ntmps19
  go_wp2
  refine wp_loop_rounds 3 ?_
  rw [rounds_succ]; go_wp2
  rw [rounds_succ]; go_wp2
  rw [rounds_succ]; go_wp2_with fail
  refine (list_any _ _ _ _ _ _).mono ?_
  rintro e w1 (⟨hr, v, rfl, _, hb1⟩ | ⟨hr, rfl, hb1⟩)
  · have hz := hb1.size
    have hB := bcall (B := w.heap.size) (a := w) (by go_grown) hb1 (by go_size)
    obtain ⟨r0, r1, r2, r3, r4, s0, s1, s2, s3, s4⟩ := ((Own5.new w (.int .i64 0) (.int .i64 0) (.int .i64 0) (.int .i64 0) (.int .i64 0) 26).alloc _ (by go_size)).below hb1 (by go_size)
    obtain ⟨p0, p1, p2, p3, p4, q0, q1, q2, q3, q4⟩ := (Own5.new _ (.int .i64 2) (.int .i64 x0) (.int .i64 x1) (.int .i64 0) (.int .i64 0) 26).below hb1 (by go_size)
    simp only [World.size_alloc] at *
    clear hb1
    go_wp2
    rw [hr]
    exact bodyPost_ret (v := stepV true 2 x0 x1 0 0) (by simp [results, Try.results19, go_sem, r0, r1, r2, r3, r4]; rfl) rfl ⟨rfl, by repeat' (first | (with_reducible refine below_drewN ?_ _) | go_grown)⟩
  · have hz := hb1.size
    have hB := bcall (B := w.heap.size) (a := w) (by go_grown) hb1 (by go_size)
    obtain ⟨r0, r1, r2, r3, r4, s0, s1, s2, s3, s4⟩ := ((Own5.new w (.int .i64 0) (.int .i64 0) (.int .i64 0) (.int .i64 0) (.int .i64 0) 26).alloc _ (by go_size)).below hb1 (by go_size)
    obtain ⟨p0, p1, p2, p3, p4, q0, q1, q2, q3, q4⟩ := (Own5.new _ (.int .i64 2) (.int .i64 x0) (.int .i64 x1) (.int .i64 0) (.int .i64 0) 26).below hb1 (by go_size)
    simp only [World.size_alloc] at *
    clear hb1
    go_wp2
    rw [hr]
    exact bodyPost_ret (v := stepV false 0 0 0 0 0) (by simp [results, Try.results19, go_sem, r0, r1, r2, r3, r4]; rfl) rfl ⟨rfl, by repeat' (first | (with_reducible refine below_drewN ?_ _) | go_grown)⟩

set_option maxHeartbeats 2000000 in
theorem of_3 (g cap : Nat) (x0 x1 x2 : Int) (w : World) (hg : g < w.heap.size) (h0 : w.cell? ⟨g, 0, none⟩ = some (.int .i64 x0)) (h1 : w.cell? ⟨g, 1, none⟩ = some (.int .i64 x1)) (h2 : w.cell? ⟨g, 2, none⟩ = some (.int .i64 x2)) : Calls Try.prog 19 #[.slice (some ⟨g, 0, none⟩) 3 cap] w (Ret (stepV (rightB 3 x0 x1 x2 0) 3 x0 x1 x2 0) w) := by
  go_enter Try.func19, Try.ntmps19
  go_wp2
  refine wp_loop_rounds 4 ?_
  rw [rounds_succ]; go_wp2
  rw [rounds_succ]; go_wp2
  rw [rounds_succ]; go_wp2
  rw [rounds_succ]; go_wp2_with fail
  refine (list_any _ _ _ _ _ _).mono ?_
  rintro e w1 (⟨hr, v, rfl, _, hb1⟩ | ⟨hr, rfl, hb1⟩)
  · have hz := hb1.size
    have hB := bcall (B := w.heap.size) (a := w) (by go_grown) hb1 (by go_size)
    obtain ⟨r0, r1, r2, r3, r4, s0, s1, s2, s3, s4⟩ := ((Own5.new w (.int .i64 0) (.int .i64 0) (.int .i64 0) (.int .i64 0) (.int .i64 0) 26).alloc _ (by go_size)).below hb1 (by go_size)
    obtain ⟨p0, p1, p2, p3, p4, q0, q1, q2, q3, q4⟩ := (Own5.new _ (.int .i64 3) (.int .i64 x0) (.int .i64 x1) (.int .i64 x2) (.int .i64 0) 26).below hb1 (by go_size)
    simp only [World.size_alloc] at *
    clear hb1
    go_wp2
    rw [hr]
    exact bodyPost_ret (v := stepV true 3 x0 x1 x2 0) (by simp [results, Try.results19, go_sem, r0, r1, r2, r3, r4]; rfl) rfl ⟨rfl, by repeat' (first | (with_reducible refine below_drewN ?_ _) | go_grown)⟩
  · have hz := hb1.size
    have hB := bcall (B := w.heap.size) (a := w) (by go_grown) hb1 (by go_size)
    obtain ⟨r0, r1, r2, r3, r4, s0, s1, s2, s3, s4⟩ := ((Own5.new w (.int .i64 0) (.int .i64 0) (.int .i64 0) (.int .i64 0) (.int .i64 0) 26).alloc _ (by go_size)).below hb1 (by go_size)
    obtain ⟨p0, p1, p2, p3, p4, q0, q1, q2, q3, q4⟩ := (Own5.new _ (.int .i64 3) (.int .i64 x0) (.int .i64 x1) (.int .i64 x2) (.int .i64 0) 26).below hb1 (by go_size)
    simp only [World.size_alloc] at *
    clear hb1
    go_wp2
    rw [hr]
    exact bodyPost_ret (v := stepV false 0 0 0 0 0) (by simp [results, Try.results19, go_sem, r0, r1, r2, r3, r4]; rfl) rfl ⟨rfl, by repeat' (first | (with_reducible refine below_drewN ?_ _) | go_grown)⟩

set_option maxHeartbeats 2000000 in
theorem of_4 (g cap : Nat) (x0 x1 x2 x3 : Int) (w : World) (hg : g < w.heap.size) (h0 : w.cell? ⟨g, 0, none⟩ = some (.int .i64 x0)) (h1 : w.cell? ⟨g, 1, none⟩ = some (.int .i64 x1)) (h2 : w.cell? ⟨g, 2, none⟩ = some (.int .i64 x2)) (h3 : w.cell? ⟨g, 3, none⟩ = some (.int .i64 x3)) : Calls Try.prog 19 #[.slice (some ⟨g, 0, none⟩) 4 cap] w (Ret (stepV (rightB 4 x0 x1 x2 x3) 4 x0 x1 x2 x3) w) := by
  go_enter Try.func19, Try.ntmps19
  go_wp2
  refine wp_loop_rounds 5 ?_
  rw [rounds_succ]; go_wp2
  rw [rounds_succ]; go_wp2
  rw [rounds_succ]; go_wp2
  rw [rounds_succ]; go_wp2
  rw [rounds_succ]; go_wp2_with fail
  refine (list_any _ _ _ _ _ _).mono ?_
  rintro e w1 (⟨hr, v, rfl, _, hb1⟩ | ⟨hr, rfl, hb1⟩)
  · have hz := hb1.size
    have hB := bcall (B := w.heap.size) (a := w) (by go_grown) hb1 (by go_size)
    obtain ⟨r0, r1, r2, r3, r4, s0, s1, s2, s3, s4⟩ := ((Own5.new w (.int .i64 0) (.int .i64 0) (.int .i64 0) (.int .i64 0) (.int .i64 0) 26).alloc _ (by go_size)).below hb1 (by go_size)
    obtain ⟨p0, p1, p2, p3, p4, q0, q1, q2, q3, q4⟩ := (Own5.new _ (.int .i64 4) (.int .i64 x0) (.int .i64 x1) (.int .i64 x2) (.int .i64 x3) 26).below hb1 (by go_size)
    simp only [World.size_alloc] at *
    clear hb1
    go_wp2
    rw [hr]
    exact bodyPost_ret (v := stepV true 4 x0 x1 x2 x3) (by simp [results, Try.results19, go_sem, r0, r1, r2, r3, r4]; rfl) rfl ⟨rfl, by repeat' (first | (with_reducible refine below_drewN ?_ _) | go_grown)⟩
  · have hz := hb1.size
    have hB := bcall (B := w.heap.size) (a := w) (by go_grown) hb1 (by go_size)
    obtain ⟨r0, r1, r2, r3, r4, s0, s1, s2, s3, s4⟩ := ((Own5.new w (.int .i64 0) (.int .i64 0) (.int .i64 0) (.int .i64 0) (.int .i64 0) 26).alloc _ (by go_size)).below hb1 (by go_size)
    obtain ⟨p0, p1, p2, p3, p4, q0, q1, q2, q3, q4⟩ := (Own5.new _ (.int .i64 4) (.int .i64 x0) (.int .i64 x1) (.int .i64 x2) (.int .i64 x3) 26).below hb1 (by go_size)
    simp only [World.size_alloc] at *
    clear hb1
    go_wp2
    rw [hr]
    exact bodyPost_ret (v := stepV false 0 0 0 0 0) (by simp [results, Try.results19, go_sem, r0, r1, r2, r3, r4]; rfl) rfl ⟨rfl, by repeat' (first | (with_reducible refine below_drewN ?_ _) | go_grown)⟩

theorem OwnI.shape {B : Nat} {w : World} {v : Value} {xs : List Int} (h : OwnI B w v xs) : v = .slice none 0 0 ∧ xs = [] ∨ ∃ g cap, v = .slice (some ⟨g, 0, none⟩) xs.length cap ∧ g < w.heap.size ∧ B ≤ g ∧ xs.length ≤ cap ∧ cap ≤ maxLen ∧ (∀ j, j < xs.length → w.cell? ⟨g, j, none⟩ = some (.int .i64 (nth xs j))) ∧ ∀ j, w.frozen? ⟨g, j, none⟩ = false := by
  have h0 := h
  rcases h.2 with ⟨hv, hn⟩ | ⟨g, cap, cur, rfl, hb, hg, hc, hm, _, _⟩
  · exact .inl ⟨hv, List.length_eq_zero_iff.1 hn⟩
  · refine .inr ⟨g, cap, rfl, (Array.getElem?_eq_some_iff.1 hg).1, hb, hc, hm, fun j hj => ?_, fun j => World.ownsRow.frozenAt (w := w) (base := B) (e := 3) (size := 1) h0 j⟩
    have e : w.cell? ⟨g, j, none⟩ = (xs.map (Value.int .i64))[j]? := World.ownsRow.cellAt (w := w) (base := B) (e := 3) (size := 1) h0 j (by omega)
    rw [e]
    simp [nth, hj]

theorem of_own {B : Nat} {v : Value} {xs : List Int} (w : World) (h : OwnI B w v xs) (hm : xs.length ≤ 1000000) : Calls Try.prog 19 #[v] w (Ret (ofV xs) w) := by
  rcases h.shape with ⟨rfl, rfl⟩ | ⟨g, cap, rfl, hg, _, _, _, hc, _⟩
  · rw [ofV_no (by decide)]; exact of_short _ _ _
  · match xs, hc, hm with
    | [], _, _ => rw [ofV_no (by decide)]; exact of_short _ _ _
    | [a], hc, _ => exact of_1 g cap a w hg (hc 0 (by simp))
    | [a, b], hc, _ => exact of_2 g cap a b w hg (hc 0 (by simp)) (hc 1 (by simp))
    | [a, b, c], hc, _ => exact of_3 g cap a b c w hg (hc 0 (by simp)) (hc 1 (by simp)) (hc 2 (by simp))
    | [a, b, c, d], hc, _ => exact of_4 g cap a b c d w hg (hc 0 (by simp)) (hc 1 (by simp)) (hc 2 (by simp)) (hc 3 (by simp))
    | a :: b :: c :: d :: e :: r, hc, hm => rw [ofV_no (right_no (fun h => by have := h.2.1; simp at this; omega))]; exact of_long _ _ _ _ (by simp) hm
end Go.Proofs.Ytimfpbmlbihlnaa
