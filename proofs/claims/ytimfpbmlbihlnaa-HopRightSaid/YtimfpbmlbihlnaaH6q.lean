import Derived.Test.YtimfpbmlbihlnaaH6p
import Derived.Deep.RegionWith
namespace Go.Proofs.Ytimfpbmlbihlnaa
open Go.RowKit
set_option linter.unusedVariables false
set_option linter.unusedSimpArgs false
theorem cut_at {P : Program} {c : Code} {Q : Exit → Act → World → Prop} {a : Act} {W : World} (f : Act → Act) (F : World → Prop)
    (h : Code.wp P c (fun e a' w' => match e with | .normal => a' = f a ∧ F w' | _ => False) a W) (k : ∀ w', F w' → Q .normal (f a) w') : Code.wp P c Q a W := cut_here h k
theorem leaf_0_1_0 (f pk A0 A1 A2 A3 B0 B1 B2 B3 : Int) (h : pk = 0) : thenR f 0 1 pk A0 A1 A2 A3 B0 B1 B2 B3 = ⟨f, 0, 1, 0, 0, 0, 0, B0, 0, 0, 0⟩ := by
  subst h
  simp [thenR, pick, cmb]
theorem leaf_0_1_1 (f pk A0 A1 A2 A3 B0 B1 B2 B3 : Int) (h : 1 ≤ pk) : thenR f 0 1 pk A0 A1 A2 A3 B0 B1 B2 B3 = ⟨f, 0, 1, 0, 0, 0, 0, (B0 + A0), 0, 0, 0⟩ := by
  have h0 : (0 : Int) < pk := by omega
  simp [thenR, pick, cmb, h0]
theorem leaf_0_2_0 (f pk A0 A1 A2 A3 B0 B1 B2 B3 : Int) (h : pk = 0) : thenR f 0 2 pk A0 A1 A2 A3 B0 B1 B2 B3 = ⟨f, 0, 2, 0, 0, 0, 0, B0, B1, 0, 0⟩ := by
  subst h
  simp [thenR, pick, cmb]
theorem leaf_0_2_1 (f pk A0 A1 A2 A3 B0 B1 B2 B3 : Int) (h : pk = 1) : thenR f 0 2 pk A0 A1 A2 A3 B0 B1 B2 B3 = ⟨f, 0, 2, 0, 0, 0, 0, (B0 + A0), B1, 0, 0⟩ := by
  subst h
  simp [thenR, pick, cmb]
theorem leaf_0_2_2 (f pk A0 A1 A2 A3 B0 B1 B2 B3 : Int) (h : 2 ≤ pk) : thenR f 0 2 pk A0 A1 A2 A3 B0 B1 B2 B3 = ⟨f, 0, 2, 0, 0, 0, 0, (B0 + A0), (B1 + A1), 0, 0⟩ := by
  have h0 : (0 : Int) < pk := by omega
  have h1 : (1 : Int) < pk := by omega
  simp [thenR, pick, cmb, h0, h1]
theorem leaf_0_3_0 (f pk A0 A1 A2 A3 B0 B1 B2 B3 : Int) (h : pk = 0) : thenR f 0 3 pk A0 A1 A2 A3 B0 B1 B2 B3 = ⟨f, 0, 3, 0, 0, 0, 0, B0, B1, B2, 0⟩ := by
  subst h
  simp [thenR, pick, cmb]
theorem leaf_0_3_1 (f pk A0 A1 A2 A3 B0 B1 B2 B3 : Int) (h : pk = 1) : thenR f 0 3 pk A0 A1 A2 A3 B0 B1 B2 B3 = ⟨f, 0, 3, 0, 0, 0, 0, (B0 + A0), B1, B2, 0⟩ := by
  subst h
  simp [thenR, pick, cmb]
theorem leaf_0_3_2 (f pk A0 A1 A2 A3 B0 B1 B2 B3 : Int) (h : pk = 2) : thenR f 0 3 pk A0 A1 A2 A3 B0 B1 B2 B3 = ⟨f, 0, 3, 0, 0, 0, 0, (B0 + A0), (B1 + A1), B2, 0⟩ := by
  subst h
  simp [thenR, pick, cmb]
theorem leaf_0_3_3 (f pk A0 A1 A2 A3 B0 B1 B2 B3 : Int) (h : 3 ≤ pk) : thenR f 0 3 pk A0 A1 A2 A3 B0 B1 B2 B3 = ⟨f, 0, 3, 0, 0, 0, 0, (B0 + A0), (B1 + A1), (B2 + A2), 0⟩ := by
  have h0 : (0 : Int) < pk := by omega
  have h1 : (1 : Int) < pk := by omega
  have h2 : (2 : Int) < pk := by omega
  simp [thenR, pick, cmb, h0, h1, h2]
theorem leaf_0_4_0 (f pk A0 A1 A2 A3 B0 B1 B2 B3 : Int) (h : pk = 0) : thenR f 0 4 pk A0 A1 A2 A3 B0 B1 B2 B3 = ⟨f, 0, 4, 0, 0, 0, 0, B0, B1, B2, B3⟩ := by
  subst h
  simp [thenR, pick, cmb]
theorem leaf_0_4_1 (f pk A0 A1 A2 A3 B0 B1 B2 B3 : Int) (h : pk = 1) : thenR f 0 4 pk A0 A1 A2 A3 B0 B1 B2 B3 = ⟨f, 0, 4, 0, 0, 0, 0, (B0 + A0), B1, B2, B3⟩ := by
  subst h
  simp [thenR, pick, cmb]
theorem leaf_0_4_2 (f pk A0 A1 A2 A3 B0 B1 B2 B3 : Int) (h : pk = 2) : thenR f 0 4 pk A0 A1 A2 A3 B0 B1 B2 B3 = ⟨f, 0, 4, 0, 0, 0, 0, (B0 + A0), (B1 + A1), B2, B3⟩ := by
  subst h
  simp [thenR, pick, cmb]
theorem leaf_0_4_3 (f pk A0 A1 A2 A3 B0 B1 B2 B3 : Int) (h : pk = 3) : thenR f 0 4 pk A0 A1 A2 A3 B0 B1 B2 B3 = ⟨f, 0, 4, 0, 0, 0, 0, (B0 + A0), (B1 + A1), (B2 + A2), B3⟩ := by
  subst h
  simp [thenR, pick, cmb]
theorem leaf_0_4_4 (f pk A0 A1 A2 A3 B0 B1 B2 B3 : Int) (h : 4 ≤ pk) : thenR f 0 4 pk A0 A1 A2 A3 B0 B1 B2 B3 = ⟨f, 0, 4, 0, 0, 0, 0, (B0 + A0), (B1 + A1), (B2 + A2), (B3 + A3)⟩ := by
  have h0 : (0 : Int) < pk := by omega
  have h1 : (1 : Int) < pk := by omega
  have h2 : (2 : Int) < pk := by omega
  have h3 : (3 : Int) < pk := by omega
  simp [thenR, pick, cmb, h0, h1, h2, h3]
theorem leaf_1_1_1 (f pk A0 A1 A2 A3 B0 B1 B2 B3 : Int) (h : 1 ≤ pk) : thenR f 1 1 pk A0 A1 A2 A3 B0 B1 B2 B3 = ⟨f, 1, 0, (B0 + A0), 0, 0, 0, 0, 0, 0, 0⟩ := by
  have h0 : (0 : Int) < pk := by omega
  simp [thenR, pick, cmb, h0]
theorem leaf_1_2_1 (f pk A0 A1 A2 A3 B0 B1 B2 B3 : Int) (h : pk = 1) : thenR f 1 2 pk A0 A1 A2 A3 B0 B1 B2 B3 = ⟨f, 1, 1, (B0 + A0), 0, 0, 0, B1, 0, 0, 0⟩ := by
  subst h
  simp [thenR, pick, cmb]
theorem leaf_1_2_2 (f pk A0 A1 A2 A3 B0 B1 B2 B3 : Int) (h : 2 ≤ pk) : thenR f 1 2 pk A0 A1 A2 A3 B0 B1 B2 B3 = ⟨f, 1, 1, (B0 + A0), 0, 0, 0, (B1 + A1), 0, 0, 0⟩ := by
  have h0 : (0 : Int) < pk := by omega
  have h1 : (1 : Int) < pk := by omega
  simp [thenR, pick, cmb, h0, h1]
theorem leaf_1_3_1 (f pk A0 A1 A2 A3 B0 B1 B2 B3 : Int) (h : pk = 1) : thenR f 1 3 pk A0 A1 A2 A3 B0 B1 B2 B3 = ⟨f, 1, 2, (B0 + A0), 0, 0, 0, B1, B2, 0, 0⟩ := by
  subst h
  simp [thenR, pick, cmb]
theorem leaf_1_3_2 (f pk A0 A1 A2 A3 B0 B1 B2 B3 : Int) (h : pk = 2) : thenR f 1 3 pk A0 A1 A2 A3 B0 B1 B2 B3 = ⟨f, 1, 2, (B0 + A0), 0, 0, 0, (B1 + A1), B2, 0, 0⟩ := by
  subst h
  simp [thenR, pick, cmb]
theorem leaf_1_3_3 (f pk A0 A1 A2 A3 B0 B1 B2 B3 : Int) (h : 3 ≤ pk) : thenR f 1 3 pk A0 A1 A2 A3 B0 B1 B2 B3 = ⟨f, 1, 2, (B0 + A0), 0, 0, 0, (B1 + A1), (B2 + A2), 0, 0⟩ := by
  have h0 : (0 : Int) < pk := by omega
  have h1 : (1 : Int) < pk := by omega
  have h2 : (2 : Int) < pk := by omega
  simp [thenR, pick, cmb, h0, h1, h2]
theorem leaf_1_4_1 (f pk A0 A1 A2 A3 B0 B1 B2 B3 : Int) (h : pk = 1) : thenR f 1 4 pk A0 A1 A2 A3 B0 B1 B2 B3 = ⟨f, 1, 3, (B0 + A0), 0, 0, 0, B1, B2, B3, 0⟩ := by
  subst h
  simp [thenR, pick, cmb]
theorem leaf_1_4_2 (f pk A0 A1 A2 A3 B0 B1 B2 B3 : Int) (h : pk = 2) : thenR f 1 4 pk A0 A1 A2 A3 B0 B1 B2 B3 = ⟨f, 1, 3, (B0 + A0), 0, 0, 0, (B1 + A1), B2, B3, 0⟩ := by
  subst h
  simp [thenR, pick, cmb]
theorem leaf_1_4_3 (f pk A0 A1 A2 A3 B0 B1 B2 B3 : Int) (h : pk = 3) : thenR f 1 4 pk A0 A1 A2 A3 B0 B1 B2 B3 = ⟨f, 1, 3, (B0 + A0), 0, 0, 0, (B1 + A1), (B2 + A2), B3, 0⟩ := by
  subst h
  simp [thenR, pick, cmb]
theorem leaf_1_4_4 (f pk A0 A1 A2 A3 B0 B1 B2 B3 : Int) (h : 4 ≤ pk) : thenR f 1 4 pk A0 A1 A2 A3 B0 B1 B2 B3 = ⟨f, 1, 3, (B0 + A0), 0, 0, 0, (B1 + A1), (B2 + A2), (B3 + A3), 0⟩ := by
  have h0 : (0 : Int) < pk := by omega
  have h1 : (1 : Int) < pk := by omega
  have h2 : (2 : Int) < pk := by omega
  have h3 : (3 : Int) < pk := by omega
  simp [thenR, pick, cmb, h0, h1, h2, h3]
theorem leaf_2_2_2 (f pk A0 A1 A2 A3 B0 B1 B2 B3 : Int) (h : 2 ≤ pk) : thenR f 2 2 pk A0 A1 A2 A3 B0 B1 B2 B3 = ⟨f, 2, 0, (B0 + A0), (B1 + A1), 0, 0, 0, 0, 0, 0⟩ := by
  have h0 : (0 : Int) < pk := by omega
  have h1 : (1 : Int) < pk := by omega
  simp [thenR, pick, cmb, h0, h1]
theorem leaf_2_3_2 (f pk A0 A1 A2 A3 B0 B1 B2 B3 : Int) (h : pk = 2) : thenR f 2 3 pk A0 A1 A2 A3 B0 B1 B2 B3 = ⟨f, 2, 1, (B0 + A0), (B1 + A1), 0, 0, B2, 0, 0, 0⟩ := by
  subst h
  simp [thenR, pick, cmb]
theorem leaf_2_3_3 (f pk A0 A1 A2 A3 B0 B1 B2 B3 : Int) (h : 3 ≤ pk) : thenR f 2 3 pk A0 A1 A2 A3 B0 B1 B2 B3 = ⟨f, 2, 1, (B0 + A0), (B1 + A1), 0, 0, (B2 + A2), 0, 0, 0⟩ := by
  have h0 : (0 : Int) < pk := by omega
  have h1 : (1 : Int) < pk := by omega
  have h2 : (2 : Int) < pk := by omega
  simp [thenR, pick, cmb, h0, h1, h2]
theorem leaf_2_4_2 (f pk A0 A1 A2 A3 B0 B1 B2 B3 : Int) (h : pk = 2) : thenR f 2 4 pk A0 A1 A2 A3 B0 B1 B2 B3 = ⟨f, 2, 2, (B0 + A0), (B1 + A1), 0, 0, B2, B3, 0, 0⟩ := by
  subst h
  simp [thenR, pick, cmb]
theorem leaf_2_4_3 (f pk A0 A1 A2 A3 B0 B1 B2 B3 : Int) (h : pk = 3) : thenR f 2 4 pk A0 A1 A2 A3 B0 B1 B2 B3 = ⟨f, 2, 2, (B0 + A0), (B1 + A1), 0, 0, (B2 + A2), B3, 0, 0⟩ := by
  subst h
  simp [thenR, pick, cmb]
theorem leaf_2_4_4 (f pk A0 A1 A2 A3 B0 B1 B2 B3 : Int) (h : 4 ≤ pk) : thenR f 2 4 pk A0 A1 A2 A3 B0 B1 B2 B3 = ⟨f, 2, 2, (B0 + A0), (B1 + A1), 0, 0, (B2 + A2), (B3 + A3), 0, 0⟩ := by
  have h0 : (0 : Int) < pk := by omega
  have h1 : (1 : Int) < pk := by omega
  have h2 : (2 : Int) < pk := by omega
  have h3 : (3 : Int) < pk := by omega
  simp [thenR, pick, cmb, h0, h1, h2, h3]
theorem leaf_3_3_3 (f pk A0 A1 A2 A3 B0 B1 B2 B3 : Int) (h : 3 ≤ pk) : thenR f 3 3 pk A0 A1 A2 A3 B0 B1 B2 B3 = ⟨f, 3, 0, (B0 + A0), (B1 + A1), (B2 + A2), 0, 0, 0, 0, 0⟩ := by
  have h0 : (0 : Int) < pk := by omega
  have h1 : (1 : Int) < pk := by omega
  have h2 : (2 : Int) < pk := by omega
  simp [thenR, pick, cmb, h0, h1, h2]
theorem leaf_3_4_3 (f pk A0 A1 A2 A3 B0 B1 B2 B3 : Int) (h : pk = 3) : thenR f 3 4 pk A0 A1 A2 A3 B0 B1 B2 B3 = ⟨f, 3, 1, (B0 + A0), (B1 + A1), (B2 + A2), 0, B3, 0, 0, 0⟩ := by
  subst h
  simp [thenR, pick, cmb]
theorem leaf_3_4_4 (f pk A0 A1 A2 A3 B0 B1 B2 B3 : Int) (h : 4 ≤ pk) : thenR f 3 4 pk A0 A1 A2 A3 B0 B1 B2 B3 = ⟨f, 3, 1, (B0 + A0), (B1 + A1), (B2 + A2), 0, (B3 + A3), 0, 0, 0⟩ := by
  have h0 : (0 : Int) < pk := by omega
  have h1 : (1 : Int) < pk := by omega
  have h2 : (2 : Int) < pk := by omega
  have h3 : (3 : Int) < pk := by omega
  simp [thenR, pick, cmb, h0, h1, h2, h3]
theorem leaf_4_4_4 (f pk A0 A1 A2 A3 B0 B1 B2 B3 : Int) (h : 4 ≤ pk) : thenR f 4 4 pk A0 A1 A2 A3 B0 B1 B2 B3 = ⟨f, 4, 0, (B0 + A0), (B1 + A1), (B2 + A2), (B3 + A3), 0, 0, 0, 0⟩ := by
  have h0 : (0 : Int) < pk := by omega
  have h1 : (1 : Int) < pk := by omega
  have h2 : (2 : Int) < pk := by omega
  have h3 : (3 : Int) < pk := by omega
  simp [thenR, pick, cmb, h0, h1, h2, h3]
end Go.Proofs.Ytimfpbmlbihlnaa
