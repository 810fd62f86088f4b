/- Deep: a box's list is turned, a box is put between, one is struck out -/
import Derived.Test.YtdgnblkoohakeaaUy
namespace Go.Proofs.Ytdgnblkoohakeaa
open Go.RowKit
set_option linter.unusedVariables false
set_option linter.unusedSimpArgs false

theorem mapfst_set {A C : List (BW × BV)} {p p' : BW × BV} {x : BW} (hx : p'.1 = x) : ((A ++ p :: C).map Prod.fst).set A.length x = (A ++ p' :: C).map Prod.fst := by
  rw [List.map_append, List.set_append_right _ _ (by simp), List.length_map, Nat.sub_self, List.map_cons, List.set_cons_zero, List.map_append, List.map_cons, hx]
theorem mapsnd_set {A C : List (BW × BV)} {p p' : BW × BV} {x : BV} (hx : p'.2 = x) : ((A ++ p :: C).map Prod.snd).set A.length x = (A ++ p' :: C).map Prod.snd := by
  rw [List.map_append, List.set_append_right _ _ (by simp), List.length_map, Nat.sub_self, List.map_cons, List.set_cons_zero, List.map_append, List.map_cons, hx]
theorem mapfst_at {A C : List (BW × BV)} {p : BW × BV} : ((A ++ p :: C).map Prod.fst)[A.length]! = p.1 ∧ A.length < ((A ++ p :: C).map Prod.fst).length := by
  have hl : A.length < ((A ++ p :: C).map Prod.fst).length := by simp
  refine ⟨?_, hl⟩
  rw [getElem!_pos ((A ++ p :: C).map Prod.fst) A.length hl, List.getElem_map, List.getElem_append_right (Nat.le_refl _)]
  simp
theorem mapsnd_at {A C : List (BW × BV)} {p : BW × BV} : ((A ++ p :: C).map Prod.snd)[A.length]! = p.2 ∧ A.length < ((A ++ p :: C).map Prod.snd).length := by
  have hl : A.length < ((A ++ p :: C).map Prod.snd).length := by simp
  refine ⟨?_, hl⟩
  rw [getElem!_pos ((A ++ p :: C).map Prod.snd) A.length hl, List.getElem_map, List.getElem_append_right (Nat.le_refl _)]
  simp
theorem pw_mid {A C : List (BW × BV)} {p : BW × BV} (h : (A ++ p :: C).Pairwise apartP) : (A ++ C).Pairwise apartP ∧ (∀ q, q ∈ A ++ C → apartP q p) := by
  rw [List.pairwise_append, List.pairwise_cons] at h
  obtain ⟨h1, ⟨h2, h3⟩, h4⟩ := h
  refine ⟨List.pairwise_append.2 ⟨h1, h3, fun a ha b hb => h4 a ha b (List.mem_cons_of_mem _ hb)⟩, fun q hq => ?_⟩
  rcases List.mem_append.1 hq with hq | hq
  · exact h4 q hq p List.mem_cons_self
  · exact (h2 q hq).symm
theorem mid_pw {A C : List (BW × BV)} {p : BW × BV} (h : (A ++ C).Pairwise apartP) (h2 : ∀ q, q ∈ A ++ C → apartP q p) : (A ++ p :: C).Pairwise apartP := by
  rw [List.pairwise_append] at h
  obtain ⟨h1, h3, h4⟩ := h
  refine List.pairwise_append.2 ⟨h1, List.pairwise_cons.2 ⟨fun q hq => (h2 q (List.mem_append_right _ hq)).symm, h3⟩, fun a ha b hb => ?_⟩
  rcases List.mem_cons.1 hb with rfl | hb
  · exact h2 a (List.mem_append_left _ ha)
  · exact h4 a ha b hb
theorem mem_mid {A C : List (BW × BV)} {p q : BW × BV} (h : q ∈ A ++ p :: C) : q ∈ A ++ C ∨ q = p := by
  rcases List.mem_append.1 h with h | h
  · exact .inl (List.mem_append_left _ h)
  · rcases List.mem_cons.1 h with h | h
    · exact .inr h
    · exact .inl (List.mem_append_right _ h)
theorem mid_mem {A C : List (BW × BV)} {p q : BW × BV} (h : q ∈ A ++ C) : q ∈ A ++ p :: C := by
  rcases List.mem_append.1 h with h | h
  · exact List.mem_append_left _ h
  · exact List.mem_append_right _ (List.mem_cons_of_mem _ h)
/-- a box's list is turned into another one -/
theorem DeepB.turn {B : Nat} {W w9 : World} {g n cap : Nat} {A C : List (BW × BV)} {p : BW × BV} (h : DeepB B W (.slice (some ⟨g, 0, none⟩) n cap) (A ++ p :: C)) {q : Option Addr} {m c : Nat} {l' : List MV} (hO : RM.Own B w9 (.slice q m c) l') (hm : m = l'.length) (hG : W.grownBy w9 (blkB p.1)) (hS : StaysOrNew W (.slice p.1.p p.1.n p.1.c) (.slice q m c)) :
    DeepB B (w9.setCell ⟨g, A.length * 4 + 3, none⟩ (.slice q m c)) (.slice (some ⟨g, 0, none⟩) n cap) (A ++ ((⟨p.1.e, p.1.f, p.1.t, q, m, c⟩ : BW), (⟨p.2.e, p.2.f, p.2.t, l'⟩ : BV)) :: C) ∧ w9.grownBy (w9.setCell ⟨g, A.length * 4 + 3, none⟩ (.slice q m c)) (some g) := by
  have hp := h.box p (by simp)
  have hO9 : RB4.Own B w9 (.slice (some ⟨g, 0, none⟩) n cap) ((A ++ p :: C).map Prod.fst) := own_other' h.own hp.l hG
  obtain ⟨hg, hl⟩ := mapfst_at (A := A) (C := C) (p := p)
  obtain ⟨hO2, hG2⟩ := Own.setL hO9 hl q m c
  rw [hg] at hO2
  obtain ⟨pw1, pw2⟩ := pw_mid h.apart
  refine ⟨⟨?_, fun r hr => ?_, mid_pw pw1 fun r hr => ?_⟩, hG2⟩
  · rw [← mapfst_set (p := p) rfl]; exact hO2
  · rcases mem_mid hr with hr | rfl
    · have q1 := h.box r (mid_mem hr)
      have q2 : RM.Own B w9 (.slice r.1.p r.1.n r.1.c) r.2.l := q1.l.keepK fun b hb => hG.block b (q1.l.lt b hb).2 fun e => pw2 r hr b hb e.symm
      exact ⟨q1.e, q1.f, q1.t, q1.n, own_other q2 hO9 hG2⟩
    · exact ⟨hp.e, hp.f, hp.t, hm, own_other hO hO9 hG2⟩
  · intro b h1 h2
    have q1 := h.box r (mid_mem hr)
    rcases hS with hS | hS
    · exact pw2 r hr b h1 (hS.symm.trans h2)
    · have := hS b h2
      have := (q1.l.lt b h1).2
      omega
/-- a box without messages is put between -/
theorem DeepB.put {B : Nat} {W w' : World} {v v' : Value} {A C : List (BW × BV)} (h : DeepB B W v (A ++ C)) {x : BW} {b : BV} (hx : x.e = b.e ∧ x.f = b.f ∧ x.t = b.t) (hn : x.p = none ∧ x.n = 0 ∧ x.c = 0) (hb : b.l = []) (hO : RB4.Own B w' v' (((A ++ C).map Prod.fst).take A.length ++ x :: ((A ++ C).map Prod.fst).drop A.length)) (hG : W.grownBy w' v.ownBlock) : DeepB B w' v' (A ++ (x, b) :: C) := by
  have e1 : ((A ++ C).map Prod.fst).take A.length = A.map Prod.fst := by rw [List.map_append, List.take_left' (by simp)]
  have e2 : ((A ++ C).map Prod.fst).drop A.length = C.map Prod.fst := by rw [List.map_append, List.drop_left' (by simp)]
  rw [e1, e2] at hO
  refine ⟨by rw [List.map_append, List.map_cons]; exact hO, fun r hr => ?_, mid_pw h.apart fun r hr b h1 h2 => ?_⟩
  · rcases mem_mid hr with hr | rfl
    · exact (h.box r hr).grown h.own hG
    · refine ⟨hx.1, hx.2.1, hx.2.2, by rw [hb]; exact hn.2.1, ?_⟩
      rw [hb]
      show RM.Own B w' (.slice x.p x.n x.c) []
      rw [hn.1, hn.2.1, hn.2.2]
      exact RowKind.Own.nil RM _ _
  · simp only [blkB, hn.1] at h2
    cases h2
/-- a box is struck out -/
theorem DeepB.drop {B : Nat} {W w' : World} {v v' : Value} {A C : List (BW × BV)} {p : BW × BV} (h : DeepB B W v (A ++ p :: C)) (hO : RB4.Own B w' v' (((A ++ p :: C).map Prod.fst).eraseIdx A.length)) (hG : W.grownBy w' v.ownBlock) : DeepB B w' v' (A ++ C) := by
  have e1 : ((A ++ p :: C).map Prod.fst).eraseIdx A.length = (A ++ C).map Prod.fst := by
    rw [List.map_append, List.eraseIdx_append_of_length_le (by simp), List.length_map, Nat.sub_self, List.map_cons, List.eraseIdx_cons_zero, List.map_append]
  rw [e1] at hO
  exact ⟨hO, fun r hr => (h.box r (mid_mem hr)).grown h.own hG, (pw_mid h.apart).1⟩
theorem split_at {α : Type} [Inhabited α] {ps : List α} {k : Nat} (hk : k < ps.length) : ∃ A p C, ps = A ++ p :: C ∧ A.length = k :=
  ⟨ps.take k, ps[k], ps.drop (k + 1), by rw [← List.drop_eq_getElem_cons hk, List.take_append_drop], by rw [List.length_take]; omega⟩
theorem split_le {α : Type} {ps : List α} {k : Nat} (hk : k ≤ ps.length) : ∃ A C, ps = A ++ C ∧ A.length = k :=
  ⟨ps.take k, ps.drop k, by rw [List.take_append_drop], by rw [List.length_take]; omega⟩
end Go.Proofs.Ytdgnblkoohakeaa
