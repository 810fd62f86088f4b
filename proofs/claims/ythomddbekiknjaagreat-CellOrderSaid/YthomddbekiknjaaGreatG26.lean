import Derived.Test.YthomddbekiknjaaGreatG23
namespace Go.Proofs.YthomddbekiknjaaGreat
open Go.RowKit
set_option linter.unusedVariables false
set_option linter.unusedSimpArgs false

set_option maxRecDepth 100000 in
set_option maxHeartbeats 8000000 in
theorem concatI_any (xs ys zs : List IV) (va vb vc : Value) (g : Nat) (w : World) (hlen : xs.length + ys.length + zs.length ≤ 900000) (ha : RI.Is w va xs) (hb : RI.Is w vb ys) (hc : RI.Is w vc zs)
    (g0 : w.cell? ⟨g, 0, none⟩ = some va) (g1 : w.cell? ⟨g, 1, none⟩ = some vb) (g2 : w.cell? ⟨g, 2, none⟩ = some vc) (hg : g < w.heap.size) :
    Calls Tryz.prog 72 #[.slice (some ⟨g, 0, none⟩) 3 3] w (RI.Made (xs ++ ys ++ zs) w) := by
  obtain ⟨p, c, rfl⟩ := ha.slice
  obtain ⟨q, d, rfl⟩ := hb.slice
  obtain ⟨r, f, rfl⟩ := hc.slice
  have HG : Hid (∀ W, Calls Tryz.prog 85 #[.slice none 0 0, .int .i64 ((xs.length : Int) + (ys.length : Int) + (zs.length : Int))] W (fun e w' => ∃ v, e = .returned v ∧ RI.Own W.heap.size w' v [] ∧ Below W.heap.size W w')) := fun W => by
    have h := growI_own (xs.length + ys.length) zs.length (by omega) W
    rw [Int.natCast_add] at h
    exact h
  have HA := Lib.hid ha; have HB := Lib.hid hb; have HC := Lib.hid hc
  clear ha hb hc
  generalize hn : xs.length = n at *
  generalize hk : ys.length = m at *
  generalize hj : zs.length = l at *
  have HL1 : Hid (([] : List IV).length + xs.length ≤ 1000000) := by show _ ≤ _; rw [hn]; simp; omega
  have HL2 : Hid ((([] : List IV) ++ xs).length + ys.length ≤ 1000000) := by show _ ≤ _; rw [List.nil_append, hn, hk]; omega
  have HL3 : Hid ((([] : List IV) ++ xs ++ ys).length + zs.length ≤ 1000000) := by show _ ≤ _; rw [List.nil_append, List.length_append, hn, hk, hj]; omega
  have HN := Lib.hid hn; have HK := Lib.hid hk; have HJ := Lib.hid hj
  clear hn hk hj
  have hne : ¬ ((n : Int) + (m : Int) < 0) := by omega
  have hne3 : ¬ ((n : Int) + (m : Int) + (l : Int) < 0) := by omega
  go_enter Tryz.func72, Tryz.ntmps72
  go_wp2
  refine wp_loop_rounds 4 ?_
  rw [rounds_succ]
  go_wp2
  rw [rounds_succ]
  go_wp2
  rw [rounds_succ]
  go_wp2
  rw [rounds_succ]
  go_wp2_with fail
  refine (HG.out _).mono ?_
  rintro ee w1 ⟨u, rfl, hO, hB⟩
  have h0 : w1.cell? ⟨g, 0, none⟩ = some (.slice p n c) := by rw [hB.cell (p := ⟨g, 0, none⟩) hg]; exact g0
  have h1 : w1.cell? ⟨g, 1, none⟩ = some (.slice q m d) := by rw [hB.cell (p := ⟨g, 1, none⟩) hg]; exact g1
  have h2 : w1.cell? ⟨g, 2, none⟩ = some (.slice r l f) := by rw [hB.cell (p := ⟨g, 2, none⟩) hg]; exact g2
  have HO := Lib.hid hO; have HB1 := Lib.hid hB
  have HZ := Lib.hid hB.size
  clear g0 g1 g2 hO hB
  go_wp2
  refine wp_loop_rounds 4 ?_
  rw [rounds_succ]
  go_wp2_with (at_builtin; refine RowKind.Own.appendAny (R := RI) (ys := xs) HO.out HB1.out HZ.out rfl _ _ rfl rfl rfl (HA.out.below HB1.out) HL1.out ?_; intro v2 w2 hO2 hB2 hz2)
  have k1 : w2.cell? ⟨g, 1, none⟩ = some (.slice q m d) := by rw [hB2.cell (p := ⟨g, 1, none⟩) hg, ← HB1.out.cell (p := ⟨g, 1, none⟩) hg]; exact h1
  have k2 : w2.cell? ⟨g, 2, none⟩ = some (.slice r l f) := by rw [hB2.cell (p := ⟨g, 2, none⟩) hg, ← HB1.out.cell (p := ⟨g, 2, none⟩) hg]; exact h2
  have HO2 := Lib.hid hO2; have HB2 := Lib.hid hB2
  have HZ2 := Lib.hid hB2.size
  clear h0 h1 h2 hO2 hB2
  rw [rounds_succ]
  go_wp2_with (at_builtin; refine RowKind.Own.appendAny (R := RI) (ys := ys) HO2.out HB2.out HZ2.out rfl _ _ rfl rfl rfl (HB.out.below HB2.out) HL2.out ?_; intro v3 w3 hO3 hB3 hz3)
  have j2 : w3.cell? ⟨g, 2, none⟩ = some (.slice r l f) := by rw [hB3.cell (p := ⟨g, 2, none⟩) hg, ← HB2.out.cell (p := ⟨g, 2, none⟩) hg]; exact k2
  have HO3 := Lib.hid hO3; have HB3 := Lib.hid hB3
  have HZ3 := Lib.hid hB3.size
  clear hO3 hB3 k1 k2
  rw [rounds_succ]
  go_wp2_with (at_builtin; refine RowKind.Own.appendAny (R := RI) (ys := zs) HO3.out HB3.out HZ3.out rfl _ _ rfl rfl rfl (HC.out.below HB3.out) HL3.out ?_; intro v4 w4 hO4 hB4 hz4)
  have HO4 := Lib.hid hO4; have HB4 := Lib.hid hB4
  clear hO4 hB4 j2
  rw [rounds_succ]
  go_wp2
  go_returns
  exact ⟨_, rfl, HO4.out, HB4.out⟩
end Go.Proofs.YthomddbekiknjaaGreat
