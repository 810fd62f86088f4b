import Derived.Test.YtjaahmgokiobjaaGreatG43
import Derived.Test.YtjaahmgokiobjaaGreatG08
import Derived.Test.YtjaahmgokiobjaaGreatG03
namespace Go.Proofs.YtjaahmgokiobjaaGreat
open Go.RowKit
set_option linter.unusedVariables false
set_option linter.unusedSimpArgs false

def nth (xs : List Int) (i : Nat) : Int := xs.getD i 0
/-- the timestamp of these coordinates, if it is right -/
def ofB (xs : List Int) : Bool := rightB xs.length (nth xs 0) (nth xs 1) (nth xs 2) (nth xs 3)
def ofV (xs : List Int) : Value := stepV (ofB xs) xs.length (nth xs 0) (nth xs 1) (nth xs 2) (nth xs 3)
theorem ofV_no {xs : List Int} (h : ofB xs = false) : ofV xs = stepV false 0 0 0 0 0 := by unfold ofV; rw [h]; rfl

set_option maxHeartbeats 400000 in
theorem of_short (p : Option Addr) (cap : Nat) (w : World) : Calls Tryz.prog 47 #[.slice p 0 cap] w (Ret (stepV false 0 0 0 0 0) w) := by
  go_enter Tryz.func47, Tryz.ntmps47
  go_wp2
  exact bodyPost_ret (v := stepV false 0 0 0 0 0) (by simp [results, Tryz.results47, go_sem]; rfl) rfl ⟨rfl, by repeat' (first | (with_reducible refine below_drewN ?_ _) | go_grown)⟩

set_option maxHeartbeats 400000 in
theorem of_long (p : Option Addr) (n cap : Nat) (w : World) (hn : 5 ≤ n) (hm : n ≤ 1000000) : Calls Tryz.prog 47 #[.slice p n cap] w (Ret (stepV false 0 0 0 0 0) w) := by
  have h5 : (4 : Int) < n := by omega
  have h1 : ¬ (n : Int) < 1 := by omega
  go_enter Tryz.func47, Tryz.ntmps47
  go_wp2
  exact bodyPost_ret (v := stepV false 0 0 0 0 0) (by simp [results, Tryz.results47, go_sem]; rfl) rfl ⟨rfl, by repeat' (first | (with_reducible refine below_drewN ?_ _) | go_grown)⟩

set_option maxHeartbeats 2000000 in
theorem of_1 (g cap : Nat) (x0 : Int) (w : World) (hg : g < w.heap.size) (h0 : w.cell? ⟨g, 0, none⟩ = some (.int .i64 x0)) : Calls Tryz.prog 47 #[.slice (some ⟨g, 0, none⟩) 1 cap] w (Ret (stepV (rightB 1 x0 0 0 0) 1 x0 0 0 0) w) := by
  go_enter Tryz.func47, Tryz.ntmps47
  go_wp2
  refine wp_loop_rounds 2 ?_
  rw [rounds_succ]; go_wp2
  rw [rounds_succ]; go_wp2_with fail
  refine (list_any _ _ _ _ _ _).mono ?_
  rintro e w1 (⟨hr, v, rfl, _, hb1⟩ | ⟨hr, rfl, hb1⟩)
  · have hz := hb1.size
    have hB := bcall (B := w.heap.size) (a := w) (by go_grown) hb1 (by go_size)
    obtain ⟨r0, r1, r2, r3, r4, s0, s1, s2, s3, s4⟩ := ((Own5.new w (.int .i64 0) (.int .i64 0) (.int .i64 0) (.int .i64 0) (.int .i64 0) 29).alloc _ (by go_size)).below hb1 (by go_size)
    obtain ⟨p0, p1, p2, p3, p4, q0, q1, q2, q3, q4⟩ := (Own5.new _ (.int .i64 1) (.int .i64 x0) (.int .i64 0) (.int .i64 0) (.int .i64 0) 29).below hb1 (by go_size)
    simp only [World.size_alloc] at *
    clear hb1
    go_wp2
    rw [hr]
    exact bodyPost_ret (v := stepV true 1 x0 0 0 0) (by simp [results, Tryz.results47, go_sem, r0, r1, r2, r3, r4]; rfl) rfl ⟨rfl, by repeat' (first | (with_reducible refine below_drewN ?_ _) | go_grown)⟩
  · have hz := hb1.size
    have hB := bcall (B := w.heap.size) (a := w) (by go_grown) hb1 (by go_size)
    obtain ⟨r0, r1, r2, r3, r4, s0, s1, s2, s3, s4⟩ := ((Own5.new w (.int .i64 0) (.int .i64 0) (.int .i64 0) (.int .i64 0) (.int .i64 0) 29).alloc _ (by go_size)).below hb1 (by go_size)
    obtain ⟨p0, p1, p2, p3, p4, q0, q1, q2, q3, q4⟩ := (Own5.new _ (.int .i64 1) (.int .i64 x0) (.int .i64 0) (.int .i64 0) (.int .i64 0) 29).below hb1 (by go_size)
    simp only [World.size_alloc] at *
    clear hb1
    go_wp2
    rw [hr]
    exact bodyPost_ret (v := stepV false 0 0 0 0 0) (by simp [results, Tryz.results47, go_sem, r0, r1, r2, r3, r4]; rfl) rfl ⟨rfl, by repeat' (first | (with_reducible refine below_drewN ?_ _) | go_grown)⟩

set_option maxHeartbeats 2000000 in
theorem of_2 (g cap : Nat) (x0 x1 : Int) (w : World) (hg : g < w.heap.size) (h0 : w.cell? ⟨g, 0, none⟩ = some (.int .i64 x0)) (h1 : w.cell? ⟨g, 1, none⟩ = some (.int .i64 x1)) : Calls Tryz.prog 47 #[.slice (some ⟨g, 0, none⟩) 2 cap] w (Ret (stepV (rightB 2 x0 x1 0 0) 2 x0 x1 0 0) w) := by
  go_enter Tryz.func47, Tryz.ntmps47
  go_wp2
  refine wp_loop_rounds 3 ?_
  rw [rounds_succ]; go_wp2
  rw [rounds_succ]; go_wp2
  rw [rounds_succ]; go_wp2_with fail
  refine (list_any _ _ _ _ _ _).mono ?_
  rintro e w1 (⟨hr, v, rfl, _, hb1⟩ | ⟨hr, rfl, hb1⟩)
  · have hz := hb1.size
    have hB := bcall (B := w.heap.size) (a := w) (by go_grown) hb1 (by go_size)
    obtain ⟨r0, r1, r2, r3, r4, s0, s1, s2, s3, s4⟩ := ((Own5.new w (.int .i64 0) (.int .i64 0) (.int .i64 0) (.int .i64 0) (.int .i64 0) 29).alloc _ (by go_size)).below hb1 (by go_size)
    obtain ⟨p0, p1, p2, p3, p4, q0, q1, q2, q3, q4⟩ := (Own5.new _ (.int .i64 2) (.int .i64 x0) (.int .i64 x1) (.int .i64 0) (.int .i64 0) 29).below hb1 (by go_size)
    simp only [World.size_alloc] at *
    clear hb1
    go_wp2
    rw [hr]
    exact bodyPost_ret (v := stepV true 2 x0 x1 0 0) (by simp [results, Tryz.results47, go_sem, r0, r1, r2, r3, r4]; rfl) rfl ⟨rfl, by repeat' (first | (with_reducible refine below_drewN ?_ _) | go_grown)⟩
  · have hz := hb1.size
    have hB := bcall (B := w.heap.size) (a := w) (by go_grown) hb1 (by go_size)
    obtain ⟨r0, r1, r2, r3, r4, s0, s1, s2, s3, s4⟩ := ((Own5.new w (.int .i64 0) (.int .i64 0) (.int .i64 0) (.int .i64 0) (.int .i64 0) 29).alloc _ (by go_size)).below hb1 (by go_size)
    obtain ⟨p0, p1, p2, p3, p4, q0, q1, q2, q3, q4⟩ := (Own5.new _ (.int .i64 2) (.int .i64 x0) (.int .i64 x1) (.int .i64 0) (.int .i64 0) 29).below hb1 (by go_size)
    simp only [World.size_alloc] at *
    clear hb1
    go_wp2
    rw [hr]
    exact bodyPost_ret (v := stepV false 0 0 0 0 0) (by simp [results, Tryz.results47, go_sem, r0, r1, r2, r3, r4]; rfl) rfl ⟨rfl, by repeat' (first | (with_reducible refine below_drewN ?_ _) | go_grown)⟩

set_option maxHeartbeats 2000000 in
theorem of_3 (g cap : Nat) (x0 x1 x2 : Int) (w : World) (hg : g < w.heap.size) (h0 : w.cell? ⟨g, 0, none⟩ = some (.int .i64 x0)) (h1 : w.cell? ⟨g, 1, none⟩ = some (.int .i64 x1)) (h2 : w.cell? ⟨g, 2, none⟩ = some (.int .i64 x2)) : Calls Tryz.prog 47 #[.slice (some ⟨g, 0, none⟩) 3 cap] w (Ret (stepV (rightB 3 x0 x1 x2 0) 3 x0 x1 x2 0) w) := by
  go_enter Tryz.func47, Tryz.ntmps47
  go_wp2
  refine wp_loop_rounds 4 ?_
  rw [rounds_succ]; go_wp2
  rw [rounds_succ]; go_wp2
  rw [rounds_succ]; go_wp2
  rw [rounds_succ]; go_wp2_with fail
  refine (list_any _ _ _ _ _ _).mono ?_
  rintro e w1 (⟨hr, v, rfl, _, hb1⟩ | ⟨hr, rfl, hb1⟩)
  · have hz := hb1.size
    have hB := bcall (B := w.heap.size) (a := w) (by go_grown) hb1 (by go_size)
    obtain ⟨r0, r1, r2, r3, r4, s0, s1, s2, s3, s4⟩ := ((Own5.new w (.int .i64 0) (.int .i64 0) (.int .i64 0) (.int .i64 0) (.int .i64 0) 29).alloc _ (by go_size)).below hb1 (by go_size)
    obtain ⟨p0, p1, p2, p3, p4, q0, q1, q2, q3, q4⟩ := (Own5.new _ (.int .i64 3) (.int .i64 x0) (.int .i64 x1) (.int .i64 x2) (.int .i64 0) 29).below hb1 (by go_size)
    simp only [World.size_alloc] at *
    clear hb1
    go_wp2
    rw [hr]
    exact bodyPost_ret (v := stepV true 3 x0 x1 x2 0) (by simp [results, Tryz.results47, go_sem, r0, r1, r2, r3, r4]; rfl) rfl ⟨rfl, by repeat' (first | (with_reducible refine below_drewN ?_ _) | go_grown)⟩
  · have hz := hb1.size
    have hB := bcall (B := w.heap.size) (a := w) (by go_grown) hb1 (by go_size)
    obtain ⟨r0, r1, r2, r3, r4, s0, s1, s2, s3, s4⟩ := ((Own5.new w (.int .i64 0) (.int .i64 0) (.int .i64 0) (.int .i64 0) (.int .i64 0) 29).alloc _ (by go_size)).below hb1 (by go_size)
    obtain ⟨p0, p1, p2, p3, p4, q0, q1, q2, q3, q4⟩ := (Own5.new _ (.int .i64 3) (.int .i64 x0) (.int .i64 x1) (.int .i64 x2) (.int .i64 0) 29).below hb1 (by go_size)
    simp only [World.size_alloc] at *
    clear hb1
    go_wp2
    rw [hr]
    exact bodyPost_ret (v := stepV false 0 0 0 0 0) (by simp [results, Tryz.results47, go_sem, r0, r1, r2, r3, r4]; rfl) rfl ⟨rfl, by repeat' (first | (with_reducible refine below_drewN ?_ _) | go_grown)⟩

set_option maxHeartbeats 2000000 in
theorem of_4 (g cap : Nat) (x0 x1 x2 x3 : Int) (w : World) (hg : g < w.heap.size) (h0 : w.cell? ⟨g, 0, none⟩ = some (.int .i64 x0)) (h1 : w.cell? ⟨g, 1, none⟩ = some (.int .i64 x1)) (h2 : w.cell? ⟨g, 2, none⟩ = some (.int .i64 x2)) (h3 : w.cell? ⟨g, 3, none⟩ = some (.int .i64 x3)) : Calls Tryz.prog 47 #[.slice (some ⟨g, 0, none⟩) 4 cap] w (Ret (stepV (rightB 4 x0 x1 x2 x3) 4 x0 x1 x2 x3) w) := by
  go_enter Tryz.func47, Tryz.ntmps47
  go_wp2
  refine wp_loop_rounds 5 ?_
  rw [rounds_succ]; go_wp2
  rw [rounds_succ]; go_wp2
  rw [rounds_succ]; go_wp2
  rw [rounds_succ]; go_wp2
  rw [rounds_succ]; go_wp2_with fail
  refine (list_any _ _ _ _ _ _).mono ?_
  rintro e w1 (⟨hr, v, rfl, _, hb1⟩ | ⟨hr, rfl, hb1⟩)
  · have hz := hb1.size
    have hB := bcall (B := w.heap.size) (a := w) (by go_grown) hb1 (by go_size)
    obtain ⟨r0, r1, r2, r3, r4, s0, s1, s2, s3, s4⟩ := ((Own5.new w (.int .i64 0) (.int .i64 0) (.int .i64 0) (.int .i64 0) (.int .i64 0) 29).alloc _ (by go_size)).below hb1 (by go_size)
    obtain ⟨p0, p1, p2, p3, p4, q0, q1, q2, q3, q4⟩ := (Own5.new _ (.int .i64 4) (.int .i64 x0) (.int .i64 x1) (.int .i64 x2) (.int .i64 x3) 29).below hb1 (by go_size)
    simp only [World.size_alloc] at *
    clear hb1
    go_wp2
    rw [hr]
    exact bodyPost_ret (v := stepV true 4 x0 x1 x2 x3) (by simp [results, Tryz.results47, go_sem, r0, r1, r2, r3, r4]; rfl) rfl ⟨rfl, by repeat' (first | (with_reducible refine below_drewN ?_ _) | go_grown)⟩
  · have hz := hb1.size
    have hB := bcall (B := w.heap.size) (a := w) (by go_grown) hb1 (by go_size)
    obtain ⟨r0, r1, r2, r3, r4, s0, s1, s2, s3, s4⟩ := ((Own5.new w (.int .i64 0) (.int .i64 0) (.int .i64 0) (.int .i64 0) (.int .i64 0) 29).alloc _ (by go_size)).below hb1 (by go_size)
    obtain ⟨p0, p1, p2, p3, p4, q0, q1, q2, q3, q4⟩ := (Own5.new _ (.int .i64 4) (.int .i64 x0) (.int .i64 x1) (.int .i64 x2) (.int .i64 x3) 29).below hb1 (by go_size)
    simp only [World.size_alloc] at *
    clear hb1
    go_wp2
    rw [hr]
    exact bodyPost_ret (v := stepV false 0 0 0 0 0) (by simp [results, Tryz.results47, go_sem, r0, r1, r2, r3, r4]; rfl) rfl ⟨rfl, by repeat' (first | (with_reducible refine below_drewN ?_ _) | go_grown)⟩

theorem OwnI.shape {B : Nat} {w : World} {v : Value} {xs : List Int} (h : OwnI B w v xs) : v = .slice none 0 0 ∧ xs = [] ∨ ∃ g cap, v = .slice (some ⟨g, 0, none⟩) xs.length cap ∧ g < w.heap.size ∧ B ≤ g ∧ xs.length ≤ cap ∧ cap ≤ maxLen ∧ (∀ j, j < xs.length → w.cell? ⟨g, j, none⟩ = some (.int .i64 (nth xs j))) ∧ ∀ j, w.frozen? ⟨g, j, none⟩ = false := by
  have h0 := h
  rcases h.2 with ⟨hv, hn⟩ | ⟨g, cap, cur, rfl, hb, hg, hc, hm, _, _⟩
  · exact .inl ⟨hv, List.length_eq_zero_iff.1 hn⟩
  · refine .inr ⟨g, cap, rfl, (Array.getElem?_eq_some_iff.1 hg).1, hb, hc, hm, fun j hj => ?_, fun j => World.ownsRow.frozenAt (w := w) (base := B) (e := 3) (size := 1) h0 j⟩
    have e : w.cell? ⟨g, j, none⟩ = (xs.map (Value.int .i64))[j]? := World.ownsRow.cellAt (w := w) (base := B) (e := 3) (size := 1) h0 j (by omega)
    rw [e]
    simp [nth, hj]

theorem of_own {B : Nat} {v : Value} {xs : List Int} (w : World) (h : OwnI B w v xs) (hm : xs.length ≤ 1000000) : Calls Tryz.prog 47 #[v] w (Ret (ofV xs) w) := by
  rcases h.shape with ⟨rfl, rfl⟩ | ⟨g, cap, rfl, hg, _, _, _, hc, _⟩
  · rw [ofV_no (by decide)]; exact of_short _ _ _
  · match xs, hc, hm with
    | [], _, _ => rw [ofV_no (by decide)]; exact of_short _ _ _
    | [a], hc, _ => exact of_1 g cap a w hg (hc 0 (by simp))
    | [a, b], hc, _ => exact of_2 g cap a b w hg (hc 0 (by simp)) (hc 1 (by simp))
    | [a, b, c], hc, _ => exact of_3 g cap a b c w hg (hc 0 (by simp)) (hc 1 (by simp)) (hc 2 (by simp))
    | [a, b, c, d], hc, _ => exact of_4 g cap a b c d w hg (hc 0 (by simp)) (hc 1 (by simp)) (hc 2 (by simp)) (hc 3 (by simp))
    | a :: b :: c :: d :: e :: r, hc, hm => rw [ofV_no (right_no (fun h => by have := h.2.1; simp at this; omega))]; exact of_long _ _ _ _ (by simp) hm
end Go.Proofs.YtjaahmgokiobjaaGreat
/- the document's Apply on steps: the walk -/
namespace Go.Proofs.YtjaahmgokiobjaaGreat
open Go.RowKit
set_option linter.unusedVariables false
set_option linter.unusedSimpArgs false
attribute [local go_sem ↓] loadH loadT storeH storeT
attribute [local simp] size_setRow
attribute [local go_sem] rowAt_head rowOf_alloc_at rowOf_alloc_past rowOf_drew rowOf_drewN rowOf_setRow_same rowOf_setRow_other rowOf_setCell_same rowOf_setCell_other size_setRow setRow_drew setRow_alloc_at setRow_alloc_past one_int one_bool cell_setRow_same cell_setRow_other frozen_setRow_same frozen_setRow_other

theorem RN_cells : ∀ xs : List Int, RN.cells xs = xs.map (Value.int .i64)
  | [] => rfl
  | x :: xs => by
    have := RN_cells xs
    unfold RowKind.cells at *
    rw [List.flatMap_cons, this]
    rfl
theorem RN_own {B : Nat} {w : World} {v : Value} {xs : List Int} : RN.Own B w v xs ↔ OwnI B w v xs := by
  unfold RowKind.Own OwnI
  rw [RN_cells]
  exact Iff.rfl
def outA (P : List PV) (C : List Int) : List Int := P.map (fun (p : PV) => if (0 : Int) ≤ p.o then p.x + C[p.o.toNat]! else p.x)
theorem outA_take (P : List PV) (C : List Int) (k : Nat) (hk : k < P.length) : outA (P.take (k + 1)) C = outA (P.take k) C ++ [if 0 ≤ P[k]!.o then P[k]!.x + C[P[k]!.o.toNat]! else P[k]!.x] := by
  unfold outA
  rw [take_getA P k hk, List.map_append]
  rfl
theorem coords_lenP (d c0 c1 c2 c3 : Int) (h : 1 ≤ d) (h4 : d ≤ 4) : ((coords d c0 c1 c2 c3).length : Int) = d := by
  unfold coords
  rw [List.length_take]
  simp only [List.length_cons, List.length_nil]
  omega
theorem coords_get (d c0 c1 c2 c3 : Int) (i : Nat) (h4 : d ≤ 4) (hi : (i : Int) < d) : (coords d c0 c1 c2 c3)[i]! = TV.coord ⟨d, c0, c1, c2, c3⟩ i := by
  have hl : i < (coords d c0 c1 c2 c3).length := by unfold coords; rw [List.length_take]; simp only [List.length_cons, List.length_nil]; omega
  rw [getElem!_pos _ i hl]
  have e : (coords d c0 c1 c2 c3)[i] = [c0, c1, c2, c3][i]'(by first | (simp; done) | (simp; omega)) := List.getElem_take
  rw [e]
  unfold TV.coord
  have : i = 0 ∨ i = 1 ∨ i = 2 ∨ i = 3 := by omega
  rcases this with rfl | rfl | rfl | rfl <;> simp
theorem coords_ok {d c0 c1 c2 c3 : Int} (h : rightB d c0 c1 c2 c3 = true) : ∀ c ∈ coords d c0 c1 c2 c3, 0 ≤ c ∧ c ≤ 1048576 := by
  obtain ⟨h0, h1, h2, h3⟩ := right_bound h
  intro c hc
  have := List.mem_of_mem_take hc
  simp at this
  rcases this with rfl | rfl | rfl | rfl <;> assumption
theorem outT_is {h : HV} {t : TV} (r : h.rightB = true) (rt : t.rightB = true) (hd : t.d = h.f) :
    outT h t = ⟨((outA (partsP h) (coords t.d t.c0 t.c1 t.c2 t.c3)).length : Int), nth (outA (partsP h) (coords t.d t.c0 t.c1 t.c2 t.c3)) 0, nth (outA (partsP h) (coords t.d t.c0 t.c1 t.c2 t.c3)) 1, nth (outA (partsP h) (coords t.d t.c0 t.c1 t.c2 t.c3)) 2, nth (outA (partsP h) (coords t.d t.c0 t.c1 t.c2 t.c3)) 3⟩ := by
  have q : h.right := of_decide_eq_true r
  obtain ⟨f, k, u, a0, a1, a2, a3, b0, b1, b2, b3⟩ := h
  obtain ⟨d, c0, c1, c2, c3⟩ := t
  obtain ⟨⟨s1, s2, s3, s4, s5, s6⟩, g1, g2, _, _⟩ := q
  simp only at s1 s2 s3 s4 s5 s6 g1 g2 hd
  subst hd
  have g := fun (i : Nat) (hi : (i : Int) < d) => coords_get d c0 c1 c2 c3 i (by omega) hi
  have e0 := g 0; have e1 := g 1; have e2 := g 2; have e3 := g 3
  generalize coords d c0 c1 c2 c3 = C at *
  clear g r rt
  have hk : k = 0 ∨ k = 1 ∨ k = 2 ∨ k = 3 ∨ k = 4 := by omega
  have hu : u = 0 ∨ u = 1 ∨ u = 2 ∨ u = 3 ∨ u = 4 := by omega
  rcases hk with rfl | rfl | rfl | rfl | rfl <;> rcases hu with rfl | rfl | rfl | rfl | rfl
  all_goals first | (exfalso; omega) | skip
  all_goals
    (try have e0 := e0 (by omega))
    (try have e1 := e1 (by omega))
    (try have e2 := e2 (by omega))
    (try have e3 := e3 (by omega))
    simp [outT, outC, HV.add, HV.tl, partsP, keptP, tailP, outA, nth, TV.coord, min40, min41, min42, min43, min44, *] at *
    try omega
theorem apply_plain_no {h : HV} {t : TV} (n : (h.rightB && t.rightB && (t.d == h.f)) = false) : applyOk h t = false ∧ applyT h t = ⟨0, 0, 0, 0, 0⟩ := by
  have hn : applyOk h t = false := by unfold applyOk; rw [n]; rfl
  exact ⟨hn, by unfold applyT TV.gate; rw [hn]; rfl⟩
theorem apply_plain {h : HV} {t : TV} (r : h.rightB = true) (rt : t.rightB = true) (hd : t.d = h.f) : ofV (outA (partsP h) (coords t.d t.c0 t.c1 t.c2 t.c3)) = .tuple #[(applyT h t).val, .bool (applyOk h t)] := by
  have e : applyOk h t = (outT h t).rightB := by unfold applyOk; rw [r, rt, hd]; simp
  unfold applyT
  rw [e, outT_is r rt hd]
  rfl
end Go.Proofs.YtjaahmgokiobjaaGreat
