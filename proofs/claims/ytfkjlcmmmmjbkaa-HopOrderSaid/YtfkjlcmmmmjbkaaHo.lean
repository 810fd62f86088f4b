import Derived.Test.YtfkjlcmmmmjbkaaHaw
import Derived.Test.YtfkjlcmmmmjbkaaHo0
import Derived.Test.YtfkjlcmmmmjbkaaHo1
import Derived.Test.YtfkjlcmmmmjbkaaHo2
import Derived.Test.YtfkjlcmmmmjbkaaHo3
namespace Go.Proofs.Ytfkjlcmmmmjbkaa
open Go.RowKit
set_option linter.unusedVariables false
set_option linter.unusedSimpArgs false

theorem le_right {a b : HV} (h : leH a b = true) : a.rightB = true ∧ b.rightB = true ∧ a.f = b.f := by
  rw [leH_eq, decide_eq_true_eq] at h
  exact ⟨h.1, h.2.1, h.2.2.1⟩
set_option maxHeartbeats 2000000 in
theorem hopOrder_calls (a b : HV) (t : TV) (W : World) : Calls Try.prog 6 #[a.val, b.val, t.val] W (Ret (.bool true) W) := by
  cases ra : a.rightB
  · exact hopOrder_r0 a b t awake_any (hright_is ra) (leH_is (by unfold leH; rw [ra]; rfl)) W
  cases rb : b.rightB
  · exact hopOrder_r1 a b t awake_any (hright_is ra) (hright_is rb) (leH_is (by unfold leH; rw [ra, rb]; rfl)) W
  have sf := order_self ra
  have zz : ∀ {h : HV}, h = h := rfl
  cases l : leH a b
  · have hy := (apply_is (h := a) (t := t) rfl rfl)
    cases hf : (a.f != b.f)
    rotate_left
    · exact hopOrder_f0 a b t _ _ _ _ _ _ _ _ hf awake_any (hright_is ra) (hright_is rb) (apply_is (h := a) (t := t) rfl rfl) (apply_is (h := b) (t := t) rfl rfl) (leH_is l) (apply_is (h := a) (t := ⟨a.f, 0, 0, 0, 0⟩) rfl rfl) (apply_is (h := b) (t := ⟨a.f, 0, 0, 0, 0⟩) rfl rfl) (leH_is sf) W
    cases hk : (a.k != b.k)
    rotate_left
    · exact hopOrder_f1 a b t _ _ _ _ _ _ _ _ hf hk awake_any (hright_is ra) (hright_is rb) (apply_is (h := a) (t := t) rfl rfl) (apply_is (h := b) (t := t) rfl rfl) (leH_is l) (apply_is (h := a) (t := ⟨a.f, 0, 0, 0, 0⟩) rfl rfl) (apply_is (h := b) (t := ⟨a.f, 0, 0, 0, 0⟩) rfl rfl) (leH_is sf) W
    cases z0 : applyOk a ⟨a.f, 0, 0, 0, 0⟩
    · exact hopOrder_f2 a b t _ _ _ _ _ _ _ hf hk awake_any (hright_is ra) (hright_is rb) (apply_is (h := a) (t := t) rfl rfl) (apply_is (h := b) (t := t) rfl rfl) (leH_is l) (apply_is (h := a) (t := ⟨a.f, 0, 0, 0, 0⟩) rfl z0) (apply_is (h := b) (t := ⟨a.f, 0, 0, 0, 0⟩) rfl rfl) (leH_is sf) W
    cases z1 : applyOk b ⟨a.f, 0, 0, 0, 0⟩
    · exact hopOrder_f3 a b t _ _ _ _ _ _ hf hk awake_any (hright_is ra) (hright_is rb) (apply_is (h := a) (t := t) rfl rfl) (apply_is (h := b) (t := t) rfl rfl) (leH_is l) (apply_is (h := a) (t := ⟨a.f, 0, 0, 0, 0⟩) rfl z0) (apply_is (h := b) (t := ⟨a.f, 0, 0, 0, 0⟩) rfl z1) (leH_is sf) W
    · have ez := order_zero (a := a) (b := b) (by simpa using hf) (by simpa using hk) z0 z1
      rw [l] at ez
      exact hopOrder_f4 a b t _ _ _ _ _ _ hf hk awake_any (hright_is ra) (hright_is rb) (apply_is (h := a) (t := t) rfl rfl) (apply_is (h := b) (t := t) rfl rfl) (leH_is l) (apply_is (h := a) (t := ⟨a.f, 0, 0, 0, 0⟩) rfl z0) (apply_is (h := b) (t := ⟨a.f, 0, 0, 0, 0⟩) rfl z1) (leH_is sf) (leT_is ez.symm) W
  have hff := (le_right l).2.2
  have hf : (a.f != b.f) = false := by simpa using hff
  cases oa : applyOk a t
  · skip
    cases l' : leH b a
    · skip
      cases hk : (a.k != b.k)
      rotate_left
      · exact hopOrder_001 a b t _ _ _ _ _ _ _ hf hk awake_any (hright_is ra) (hright_is rb) (apply_is (h := a) (t := t) rfl oa) (apply_is (h := b) (t := t) rfl rfl) (leH_is l) (leH_is l') (apply_is (h := a) (t := ⟨a.f, 0, 0, 0, 0⟩) rfl rfl) (apply_is (h := b) (t := ⟨a.f, 0, 0, 0, 0⟩) rfl rfl) (leH_is sf) W
      cases z0 : applyOk a ⟨a.f, 0, 0, 0, 0⟩
      · exact hopOrder_002 a b t _ _ _ _ _ _ hf hk awake_any (hright_is ra) (hright_is rb) (apply_is (h := a) (t := t) rfl oa) (apply_is (h := b) (t := t) rfl rfl) (leH_is l) (leH_is l') (apply_is (h := a) (t := ⟨a.f, 0, 0, 0, 0⟩) rfl z0) (apply_is (h := b) (t := ⟨a.f, 0, 0, 0, 0⟩) rfl rfl) (leH_is sf) W
      cases z1 : applyOk b ⟨a.f, 0, 0, 0, 0⟩
      · exact hopOrder_003 a b t _ _ _ _ _ hf hk awake_any (hright_is ra) (hright_is rb) (apply_is (h := a) (t := t) rfl oa) (apply_is (h := b) (t := t) rfl rfl) (leH_is l) (leH_is l') (apply_is (h := a) (t := ⟨a.f, 0, 0, 0, 0⟩) rfl z0) (apply_is (h := b) (t := ⟨a.f, 0, 0, 0, 0⟩) rfl z1) (leH_is sf) W
      · have ez := order_zero (a := a) (b := b) (by simpa using hf) (by simpa using hk) z0 z1
        rw [l] at ez
        exact hopOrder_004 a b t _ _ _ _ _ hf hk awake_any (hright_is ra) (hright_is rb) (apply_is (h := a) (t := t) rfl oa) (apply_is (h := b) (t := t) rfl rfl) (leH_is l) (leH_is l') (apply_is (h := a) (t := ⟨a.f, 0, 0, 0, 0⟩) rfl z0) (apply_is (h := b) (t := ⟨a.f, 0, 0, 0, 0⟩) rfl z1) (leH_is sf) (leT_is ez.symm) W
    cases hkk : (a.k == b.k)
    · exact hopOrder_021 a b t _ _ _ _ _ _ _ (by simpa using hff) hkk hf (by simpa using hkk) awake_any (hright_is ra) (hright_is rb) (apply_is (h := a) (t := t) rfl oa) (apply_is (h := b) (t := t) rfl rfl) (leH_is l) (leH_is l') (apply_is (h := a) (t := ⟨a.f, 0, 0, 0, 0⟩) rfl rfl) (apply_is (h := b) (t := ⟨a.f, 0, 0, 0, 0⟩) rfl rfl) (leH_is sf) W
    have e := order_one l l' (by simpa using hkk)
    subst e
    cases z0 : applyOk a ⟨a.f, 0, 0, 0, 0⟩
    · exact hopOrder_012 a a t _ TV.zero false _ TV.zero false awake_any (hright_is ra) (apply_is (h := a) (t := t) rfl oa) (leH_is l) (apply_is (h := a) (t := ⟨a.f, 0, 0, 0, 0⟩) rfl z0) W
    · exact hopOrder_014 a a t _ TV.zero false _ TV.zero awake_any (hright_is ra) (apply_is (h := a) (t := t) rfl oa) (leH_is l) (apply_is (h := a) (t := ⟨a.f, 0, 0, 0, 0⟩) rfl z0) (leT_is (by have ez := order_zero (a := a) (b := a) rfl rfl z0 z0; rw [l] at ez; exact ez.symm)) W
  cases ob : applyOk b t
  · skip
    cases l' : leH b a
    · skip
      cases hk : (a.k != b.k)
      rotate_left
      · exact hopOrder_101 a b t _ _ _ _ _ _ hf hk awake_any (hright_is ra) (hright_is rb) (apply_is (h := a) (t := t) rfl oa) (apply_is (h := b) (t := t) rfl ob) (leH_is l) (leH_is l') (apply_is (h := a) (t := ⟨a.f, 0, 0, 0, 0⟩) rfl rfl) (apply_is (h := b) (t := ⟨a.f, 0, 0, 0, 0⟩) rfl rfl) (leH_is sf) W
      cases z0 : applyOk a ⟨a.f, 0, 0, 0, 0⟩
      · exact hopOrder_102 a b t _ _ _ _ _ hf hk awake_any (hright_is ra) (hright_is rb) (apply_is (h := a) (t := t) rfl oa) (apply_is (h := b) (t := t) rfl ob) (leH_is l) (leH_is l') (apply_is (h := a) (t := ⟨a.f, 0, 0, 0, 0⟩) rfl z0) (apply_is (h := b) (t := ⟨a.f, 0, 0, 0, 0⟩) rfl rfl) (leH_is sf) W
      cases z1 : applyOk b ⟨a.f, 0, 0, 0, 0⟩
      · exact hopOrder_103 a b t _ _ _ _ hf hk awake_any (hright_is ra) (hright_is rb) (apply_is (h := a) (t := t) rfl oa) (apply_is (h := b) (t := t) rfl ob) (leH_is l) (leH_is l') (apply_is (h := a) (t := ⟨a.f, 0, 0, 0, 0⟩) rfl z0) (apply_is (h := b) (t := ⟨a.f, 0, 0, 0, 0⟩) rfl z1) (leH_is sf) W
      · have ez := order_zero (a := a) (b := b) (by simpa using hf) (by simpa using hk) z0 z1
        rw [l] at ez
        exact hopOrder_104 a b t _ _ _ _ hf hk awake_any (hright_is ra) (hright_is rb) (apply_is (h := a) (t := t) rfl oa) (apply_is (h := b) (t := t) rfl ob) (leH_is l) (leH_is l') (apply_is (h := a) (t := ⟨a.f, 0, 0, 0, 0⟩) rfl z0) (apply_is (h := b) (t := ⟨a.f, 0, 0, 0, 0⟩) rfl z1) (leH_is sf) (leT_is ez.symm) W
    cases hkk : (a.k == b.k)
    · exact hopOrder_121 a b t _ _ _ _ _ _ (by simpa using hff) hkk hf (by simpa using hkk) awake_any (hright_is ra) (hright_is rb) (apply_is (h := a) (t := t) rfl oa) (apply_is (h := b) (t := t) rfl ob) (leH_is l) (leH_is l') (apply_is (h := a) (t := ⟨a.f, 0, 0, 0, 0⟩) rfl rfl) (apply_is (h := b) (t := ⟨a.f, 0, 0, 0, 0⟩) rfl rfl) (leH_is sf) W
    · exfalso
      have e := order_one l l' (by simpa using hkk)
      subst e
      rw [oa] at ob
      cases ob
  cases l' : leH b a
  · skip
    cases hk : (a.k != b.k)
    rotate_left
    · exact hopOrder_201 a b t _ _ _ _ _ _ hf hk awake_any (hright_is ra) (hright_is rb) (apply_is (h := a) (t := t) rfl oa) (apply_is (h := b) (t := t) rfl ob) (leH_is l) (leT_is (order_time l oa ob)) (leH_is l') (apply_is (h := a) (t := ⟨a.f, 0, 0, 0, 0⟩) rfl rfl) (apply_is (h := b) (t := ⟨a.f, 0, 0, 0, 0⟩) rfl rfl) (leH_is sf) W
    cases z0 : applyOk a ⟨a.f, 0, 0, 0, 0⟩
    · exact hopOrder_202 a b t _ _ _ _ _ hf hk awake_any (hright_is ra) (hright_is rb) (apply_is (h := a) (t := t) rfl oa) (apply_is (h := b) (t := t) rfl ob) (leH_is l) (leT_is (order_time l oa ob)) (leH_is l') (apply_is (h := a) (t := ⟨a.f, 0, 0, 0, 0⟩) rfl z0) (apply_is (h := b) (t := ⟨a.f, 0, 0, 0, 0⟩) rfl rfl) (leH_is sf) W
    cases z1 : applyOk b ⟨a.f, 0, 0, 0, 0⟩
    · exact hopOrder_203 a b t _ _ _ _ hf hk awake_any (hright_is ra) (hright_is rb) (apply_is (h := a) (t := t) rfl oa) (apply_is (h := b) (t := t) rfl ob) (leH_is l) (leT_is (order_time l oa ob)) (leH_is l') (apply_is (h := a) (t := ⟨a.f, 0, 0, 0, 0⟩) rfl z0) (apply_is (h := b) (t := ⟨a.f, 0, 0, 0, 0⟩) rfl z1) (leH_is sf) W
    · have ez := order_zero (a := a) (b := b) (by simpa using hf) (by simpa using hk) z0 z1
      rw [l] at ez
      exact hopOrder_204 a b t _ _ _ _ hf hk awake_any (hright_is ra) (hright_is rb) (apply_is (h := a) (t := t) rfl oa) (apply_is (h := b) (t := t) rfl ob) (leH_is l) (leT_is (order_time l oa ob)) (leH_is l') (apply_is (h := a) (t := ⟨a.f, 0, 0, 0, 0⟩) rfl z0) (apply_is (h := b) (t := ⟨a.f, 0, 0, 0, 0⟩) rfl z1) (leH_is sf) (leT_is ez.symm) W
  cases hkk : (a.k == b.k)
  · exact hopOrder_221 a b t _ _ _ _ _ _ (by simpa using hff) hkk hf (by simpa using hkk) awake_any (hright_is ra) (hright_is rb) (apply_is (h := a) (t := t) rfl oa) (apply_is (h := b) (t := t) rfl ob) (leH_is l) (leT_is (order_time l oa ob)) (leH_is l') (apply_is (h := a) (t := ⟨a.f, 0, 0, 0, 0⟩) rfl rfl) (apply_is (h := b) (t := ⟨a.f, 0, 0, 0, 0⟩) rfl rfl) (leH_is sf) W
  have e := order_one l l' (by simpa using hkk)
  subst e
  cases z0 : applyOk a ⟨a.f, 0, 0, 0, 0⟩
  · exact hopOrder_212 a a t _ TV.zero _ TV.zero false awake_any (hright_is ra) (apply_is (h := a) (t := t) rfl oa) (leH_is l) (leT_is (order_time l oa oa)) (apply_is (h := a) (t := ⟨a.f, 0, 0, 0, 0⟩) rfl z0) W
  · exact hopOrder_214 a a t _ TV.zero _ TV.zero awake_any (hright_is ra) (apply_is (h := a) (t := t) rfl oa) (leH_is l) (leT_is (order_time l oa oa)) (apply_is (h := a) (t := ⟨a.f, 0, 0, 0, 0⟩) rfl z0) (leT_is (by have ez := order_zero (a := a) (b := a) rfl rfl z0 z0; rw [l] at ez; exact ez.symm)) W
end Go.Proofs.Ytfkjlcmmmmjbkaa
