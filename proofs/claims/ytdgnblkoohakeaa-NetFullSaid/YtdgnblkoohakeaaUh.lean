/- plain: one mailbox that is filled -/
import Derived.Test.YtdgnblkoohakeaaUa
namespace Go.Proofs.Ytdgnblkoohakeaa
open Go.RowKit
set_option linter.unusedVariables false
set_option linter.unusedSimpArgs false

def mkM (e n : Int) : MV := ⟨e, 0, 0, 0, 0, 0, 0, 0, n, 0⟩
/-- one box with these, or none -/
def oneB (e f t : Int) (l : List MV) : List BV := if l = [] then [] else [⟨e, f, t, l⟩]
theorem one_nil (e f t : Int) : oneB e f t [] = [] := if_pos rfl
theorem one_cons {e f t : Int} {l : List MV} (h : l ≠ []) : oneB e f t l = [⟨e, f, t, l⟩] := if_neg h
theorem one_is (e f t : Int) (l : List MV) : isB ⟨e, f, t, l⟩ e f t = true := (isB_iff _ _ _ _).2 ⟨rfl, rfl, rfl⟩
theorem one_good {e f t : Int} {l : List MV} (h : 0 ≤ e ∧ 0 ≤ f ∧ 0 ≤ t) (hl : l.length ≤ 4096) (he : ∀ m ∈ l, m.e = e) : rightN (oneB e f t l) = true := by
  refine (rightN_iff _).2 ?_
  by_cases q : l = []
  · rw [q, one_nil]; exact good_nilN
  · rw [one_cons q]
    refine ⟨fun b hb => ?_, List.pairwise_singleton _ _⟩
    simp only [List.mem_singleton] at hb
    subst hb
    exact (okB_iff _).2 ⟨h, ⟨List.length_pos_iff.2 q, hl⟩, he⟩
theorem one_len {e f t : Int} {l : List MV} (h : 0 ≤ e ∧ 0 ≤ f ∧ 0 ≤ t) (hl : l.length ≤ 4096) (he : ∀ m ∈ l, m.e = e) : lenN (oneB e f t l) e f t = l.length := by
  unfold lenN
  rw [if_pos (one_good h hl he)]
  by_cases q : l = []
  · rw [q, one_nil]; rfl
  · rw [one_cons q]
    simp only [lenL]
    rw [if_pos (one_is e f t l)]
theorem one_list {e f t : Int} {l : List MV} : listL (oneB e f t l) e f t = l := by
  by_cases q : l = []
  · rw [q, one_nil]; rfl
  · rw [one_cons q]
    simp only [listL]
    rw [if_pos (one_is e f t l)]
theorem one_putOk {e f t room n : Int} {l : List MV} (h : 0 ≤ e ∧ 0 ≤ f ∧ 0 ≤ t) (hl : l.length ≤ 4000) (he : ∀ m ∈ l, m.e = e) : putOk (oneB e f t l) f t room (mkM e n) = decide ((l.length : Int) < room) := by
  unfold putOk
  rw [Bool.eq_iff_iff, decide_eq_true_eq, decide_eq_true_eq]
  have hL : lenN (oneB e f t l) (mkM e n).e f t = l.length := one_len h (by omega) he
  rw [hL]
  constructor
  · intro q; exact q.2.2.1
  · intro q; exact ⟨one_good h (by omega) he, ⟨h.2.1, h.2.2, h.1⟩, q, by omega⟩
theorem one_putL {e f t n : Int} {l : List MV} : putL (oneB e f t l) f t (mkM e n) = oneB e f t (l ++ [mkM e n]) := by
  rw [one_cons (l := l ++ [mkM e n]) (by simp)]
  by_cases q : l = []
  · rw [q, one_nil]; rfl
  · rw [one_cons q]
    simp only [putL]
    rw [if_pos (show isB ⟨e, f, t, l⟩ (mkM e n).e f t = true from one_is e f t l)]
    rfl
theorem one_put {e f t room n : Int} {l : List MV} (h : 0 ≤ e ∧ 0 ≤ f ∧ 0 ≤ t) (hl : l.length ≤ 4000) (he : ∀ m ∈ l, m.e = e) : putN (oneB e f t l) f t room (mkM e n) = if (l.length : Int) < room then oneB e f t (l ++ [mkM e n]) else oneB e f t l := by
  unfold putN
  rw [one_putOk h hl he]
  by_cases q : (l.length : Int) < room
  · rw [if_pos (decide_eq_true q), if_pos q, one_putL]
  · rw [if_neg (by rw [decide_eq_false q]; decide), if_neg q]
theorem one_takeOk {e f t : Int} {i : Nat} {l : List MV} (h : 0 ≤ e ∧ 0 ≤ f ∧ 0 ≤ t) (hl : l.length ≤ 4096) (he : ∀ m ∈ l, m.e = e) (hi : i < l.length) : takeOk (oneB e f t l) e f t (i : Int) = true := by
  unfold takeOk
  rw [one_len h hl he]
  exact decide_eq_true ⟨by omega, by omega⟩
theorem one_takeM {e f t : Int} {i : Nat} {l : List MV} (h : 0 ≤ e ∧ 0 ≤ f ∧ 0 ≤ t) (hl : l.length ≤ 4096) (he : ∀ m ∈ l, m.e = e) (hi : i < l.length) : takeM (oneB e f t l) e f t (i : Int) = l[i]! := by
  unfold takeM
  rw [if_pos (one_takeOk h hl he hi), one_list]
  rfl
theorem one_take {e f t : Int} {i : Nat} {l : List MV} (h : 0 ≤ e ∧ 0 ≤ f ∧ 0 ≤ t) (hl : l.length ≤ 4096) (he : ∀ m ∈ l, m.e = e) (hi : i < l.length) : takeN (oneB e f t l) e f t (i : Int) = oneB e f t (l.eraseIdx i) := by
  unfold takeN
  rw [if_pos (one_takeOk h hl he hi), one_cons (l := l) (fun q => by subst q; exact absurd hi (Nat.not_lt_zero i))]
  simp only [takeL]
  rw [if_pos (one_is e f t l)]
  by_cases q : l.length = 1
  · rw [if_pos q]
    obtain ⟨x, hx⟩ := List.length_eq_one_iff.1 q
    have : i = 0 := by omega
    subst this
    rw [hx]
    rfl
  · rw [if_neg q, one_cons]
    · rfl
    · intro e0
      have := congrArg List.length e0
      rw [List.length_eraseIdx, if_pos hi] at this
      simp at this
      omega
theorem one_all {e f t : Int} {l : List MV} (h : 0 ≤ e ∧ 0 ≤ f ∧ 0 ≤ t) (hl : l.length ≤ 4096) (he : ∀ m ∈ l, m.e = e) : allN (oneB e f t l) = l := by
  unfold allN
  rw [if_pos (one_good h hl he)]
  by_cases q : l = []
  · rw [q, one_nil]; rfl
  · rw [one_cons q]; simp
/-- the first so many -/
def msgsU (e : Int) (i : Nat) : List MV := (List.range i).map fun j : Nat => mkM e ((j : Int) + 1)
theorem msgs_len (e : Int) (i : Nat) : (msgsU e i).length = i := by unfold msgsU; rw [List.length_map, List.length_range]
theorem msgs_succ (e : Int) (i : Nat) : msgsU e (i + 1) = msgsU e i ++ [mkM e ((i : Int) + 1)] := by unfold msgsU; rw [List.range_succ, List.map_append]; rfl
theorem msgs_edge (e : Int) (i : Nat) : ∀ m ∈ msgsU e i, m.e = e := fun m hm => by
  obtain ⟨j, _, rfl⟩ := List.mem_map.1 hm
  rfl
theorem msgs_get (e : Int) {i j : Nat} (h : j < i) : (msgsU e i)[j]! = mkM e ((j : Int) + 1) := by
  rw [getElem!_pos _ j (by rw [msgs_len]; exact h)]
  simp [msgsU]
end Go.Proofs.Ytdgnblkoohakeaa
