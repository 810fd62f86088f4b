import Derived.Test.YtcaolilhemamiaaCf
import Derived.Test.YtcaolilhemamiaaCw
namespace Go.Proofs.Ytcaolilhemamiaa
open Go.RowKit
set_option linter.unusedVariables false
set_option linter.unusedSimpArgs false

set_option maxRecDepth 100000 in
set_option maxHeartbeats 8000000 in
theorem concat_any (xs ys : List TV) (va vb : Value) (g : Nat) (w : World) (hl : xs.length ≤ 400000) (hm : ys.length ≤ 400000) (ha : IsT w va xs) (hb : IsT w vb ys)
    (g0 : w.cell? ⟨g, 0, none⟩ = some va) (g1 : w.cell? ⟨g, 1, none⟩ = some vb) (hg : g < w.heap.size) :
    Calls Try.prog 51 #[.slice (some ⟨g, 0, none⟩) 2 2] w (MadeT (xs ++ ys) w) := by
  obtain ⟨p, c, rfl⟩ := ha.slice
  obtain ⟨q, d, rfl⟩ := hb.slice
  have HG := Lib.hid (grow_own xs.length ys.length (by omega))
  have HA := Lib.hid ha; have HB := Lib.hid hb
  clear ha hb
  generalize hn : xs.length = n at *
  generalize hk : ys.length = m at *
  have hl1 : ([] : List TV).length + xs.length ≤ 1000000 := by rw [hn]; simp; omega
  have hl2 : (([] : List TV) ++ xs).length + ys.length ≤ 1000000 := by rw [List.nil_append, hn, hk]; omega
  have HL1 := Lib.hid hl1; have HL2 := Lib.hid hl2
  clear hl1 hl2
  have HN := Lib.hid hn; have HK := Lib.hid hk
  clear hn hk
  have hne : ¬ ((n : Int) + (m : Int) < 0) := by omega
  go_enter Try.func51, Try.ntmps51
  go_wp2
  refine wp_loop_rounds 3 ?_
  rw [rounds_succ]
  go_wp2
  rw [rounds_succ]
  go_wp2
  rw [rounds_succ]
  go_wp2_with fail
  refine (HG.out _).mono ?_
  rintro e w1 ⟨u, rfl, hO, hB⟩
  have h0 : w1.cell? ⟨g, 0, none⟩ = some (.slice p n c) := by rw [hB.cell (p := ⟨g, 0, none⟩) hg]; exact g0
  have h1 : w1.cell? ⟨g, 1, none⟩ = some (.slice q m d) := by rw [hB.cell (p := ⟨g, 1, none⟩) hg]; exact g1
  have HO := Lib.hid hO; have HB1 := Lib.hid hB
  have HZ := Lib.hid hB.size
  clear g0 g1 hO hB
  go_wp2
  refine wp_loop_rounds 3 ?_
  rw [rounds_succ]
  go_wp2_with (at_builtin; refine OwnT.appendAny (ys := xs) HO.out HB1.out HZ.out rfl _ _ rfl rfl rfl (HA.out.below HB1.out) HL1.out ?_; intro v2 w2 hO2 hB2 hz2)
  have k1 : w2.cell? ⟨g, 1, none⟩ = some (.slice q m d) := by rw [hB2.cell (p := ⟨g, 1, none⟩) hg, ← HB1.out.cell (p := ⟨g, 1, none⟩) hg]; exact h1
  have HO2 := Lib.hid hO2; have HB2 := Lib.hid hB2
  have HZ2 := Lib.hid hB2.size
  clear h0 h1 hO2 hB2
  rw [rounds_succ]
  go_wp2_with (at_builtin; refine OwnT.appendAny (ys := ys) HO2.out HB2.out HZ2.out rfl _ _ rfl rfl rfl (HB.out.below HB2.out) HL2.out ?_; intro v3 w3 hO3 hB3 hz3)
  have HO3 := Lib.hid hO3; have HB3 := Lib.hid hB3
  clear hO3 hB3 k1
  rw [rounds_succ]
  go_wp2
  go_returns
  exact ⟨_, rfl, HO3.out, HB3.out⟩
theorem MadeT.mono {xs : List TV} {w W : World} {e : Ending} {w' : World} (h : MadeT xs W e w') (hb : Below w.heap.size w W) : MadeT xs w e w' := by
  obtain ⟨v, h1, h2, h3⟩ := h
  exact ⟨v, h1, h2.mono hb.size, hb.trans (h3.mono hb.size)⟩
set_option maxRecDepth 100000 in
set_option maxHeartbeats 4000000 in
theorem all_any (xs ys : List TV) (va vb : Value) (w : World) (hl : xs.length ≤ 400000) (hm : ys.length ≤ 400000) (ha : IsT w va xs) (hb : IsT w vb ys) : Calls Try.prog 20 #[va, vb] w (MadeT (ofT (xs ++ ys)) w) := by
  have HB0 : ∀ o, Below w.heap.size w (w.alloc o) := fun o => (Below.refl _ w).alloc (Nat.le_refl _) o
  have hcon := fun t => concat_any xs ys va vb w.heap.size (w.alloc (.cells #[va, vb] t)) hl hm (ha.below (HB0 _)) (hb.below (HB0 _)) (by simp) (by simp) (by simp)
  have hof := fun (W : World) (v : Value) (h : IsT W v (xs ++ ys)) => of_any (xs ++ ys) v W (by rw [List.length_append]; omega) h
  obtain ⟨p, c, rfl⟩ := ha.slice
  obtain ⟨q, d, rfl⟩ := hb.slice
  clear ha hb hl hm
  have HC := Lib.hid hcon; have HF := Lib.hid hof
  clear hcon hof
  generalize xs ++ ys = zs at *
  generalize ofT zs = res at *
  generalize xs.length = n at *
  generalize ys.length = m at *
  have HB := Lib.hid HB0
  clear HB0
  go_enter Try.func20, Try.ntmps20
  go_wp2_with fail
  refine (HC.out _).mono ?_
  rintro e w1 ⟨u, rfl, hO, hB1⟩
  have HO := Lib.hid hO
  have HB2 := Lib.hid ((HB.out _).trans (hB1.mono (HB.out _).size))
  clear hO hB1 HC
  go_wp2_with fail
  refine (HF.out _ _ HO.out.is).mono ?_
  rintro e w2 ⟨u2, rfl, hO2, hB3⟩
  have HO2 := Lib.hid (hO2.mono HB2.out.size)
  have HB3 := Lib.hid (HB2.out.trans (hB3.mono HB2.out.size))
  clear hO2 hB3
  go_wp2
  go_returns
  exact ⟨_, rfl, HO2.out, HB3.out⟩
set_option maxRecDepth 100000 in
set_option maxHeartbeats 4000000 in
theorem put_any (xs : List TV) (t : TV) (va : Value) (w : World) (hl : xs.length ≤ 400000) (ha : IsT w va xs) : Calls Try.prog 19 #[va, t.val] w (MadeT (ofT (xs ++ [t])) w) := by
  have HB0 : ∀ o o' o'', Below w.heap.size w (((w.alloc o).alloc o').alloc o'') := fun o o' o'' => (((Below.refl _ w).alloc (Nat.le_refl _) o).alloc (by simp) o').alloc (by simp; omega) o''
  have hcon := fun t1 t2 t3 => concat_any xs [t] va (.slice (some ⟨w.heap.size + 1, 0, none⟩) 1 1) (w.heap.size + 1 + 1) (((w.alloc (.cells #[.int .i64 t.d, .int .i64 t.c0, .int .i64 t.c1, .int .i64 t.c2, .int .i64 t.c3] t1)).alloc (.cells #[.int .i64 t.d, .int .i64 t.c0, .int .i64 t.c1, .int .i64 t.c2, .int .i64 t.c3] t2)).alloc (.cells #[va, .slice (some ⟨w.heap.size + 1, 0, none⟩) 1 1] t3)) hl (by simp) (ha.below (HB0 _ _ _))
    (.inr ⟨by simp, w.heap.size + 1, 0, 1, rfl, by simp, by
      have h := RowT.new (w.alloc (.cells #[.int .i64 t.d, .int .i64 t.c0, .int .i64 t.c1, .int .i64 t.c2, .int .i64 t.c3] t1)) t t2
      rw [World.size_alloc] at h
      exact h.below ((Below.refl (w.heap.size + 1 + 1) _).alloc (by simp) _) (by omega)⟩) (by go_cell) (by go_cell) (by simp)
  have hof := fun (W : World) (v : Value) (h : IsT W v (xs ++ [t])) => of_any (xs ++ [t]) v W (by rw [List.length_append]; simp; omega) h
  obtain ⟨p, c, rfl⟩ := ha.slice
  clear ha hl
  have HC := Lib.hid hcon; have HF := Lib.hid hof
  clear hcon hof
  generalize xs ++ [t] = zs at *
  generalize ofT zs = res at *
  generalize xs.length = n at *
  have HB := Lib.hid HB0
  clear HB0
  go_enter Try.func19, Try.ntmps19
  go_wp2_with fail
  refine (HC.out _ _ _).mono ?_
  rintro e w1 ⟨u, rfl, hO, hB1⟩
  have HO := Lib.hid hO
  have HB2 := Lib.hid ((HB.out _ _ _).trans (hB1.mono (HB.out _ _ _).size))
  clear hO hB1 HC
  go_wp2_with fail
  refine (HF.out _ _ HO.out.is).mono ?_
  rintro e w2 ⟨u2, rfl, hO2, hB3⟩
  have HO2 := Lib.hid (hO2.mono HB2.out.size)
  have HB3 := Lib.hid (HB2.out.trans (hB3.mono HB2.out.size))
  clear hO2 hB3
  go_wp2
  go_returns
  exact ⟨_, rfl, HO2.out, HB3.out⟩
end Go.Proofs.Ytcaolilhemamiaa
