/- net.find; what its place tells of Put and Take -/
import Derived.Test.YtdgnblkoohakeaaUr
import Derived.Test.YtdgnblkoohakeaaUe
import Derived.Test.YtdgnblkoohakeaaUm
namespace Go.Proofs.Ytdgnblkoohakeaa
open Go.RowKit
set_option linter.unusedVariables false
set_option linter.unusedSimpArgs false

theorem Pos.not_lo {n : List BV} {e f t : Int} {k : Nat} {th : Bool} (h : Pos n e f t k th) : ∀ j, j < k → isB n[j]! e f t = false := fun j hj => by
  have h1 := (aheadB_iff _ _).1 (h.lo j hj)
  cases q : isB n[j]! e f t
  · rfl
  · rw [isB_iff] at q
    simp only at h1
    omega
theorem Pos.hit {n : List BV} {e f t : Int} {k : Nat} (h : Pos n e f t k true) : k < n.length ∧ isB n[k]! e f t = true := by
  have := h.th
  simp only [Bool.true_eq, Bool.and_eq_true, decide_eq_true_eq] at this
  exact this
/-- where it is not there, the one that stands there stands behind it -/
theorem Pos.miss {n : List BV} {e f t : Int} {k : Nat} (h : Pos n e f t k false) (hk : k < n.length) : isB n[k]! e f t = false ∧ ∀ l, aheadB ⟨e, f, t, l⟩ n[k]! = true := by
  have h1 := h.th
  rw [decide_eq_true hk, Bool.true_and] at h1
  refine ⟨h1.symm, fun l => ?_⟩
  have h2 := h.hi k (Nat.le_refl _) hk
  have h3 : ¬ (n[k]!.e = e ∧ n[k]!.f = f ∧ n[k]!.t = t) := fun q => by rw [(isB_iff _ _ _ _).2 q] at h1; cases h1
  have h4 : ¬ aheadB n[k]! ⟨e, f, t, []⟩ = true := by rw [h2]; decide
  rw [aheadB_iff] at h4 ⊢
  simp only at h4 ⊢
  omega
theorem Pos.none {n : List BV} {e f t : Int} {k : Nat} (hg : GoodN n) (h : Pos n e f t k false) : ∀ b ∈ n, isB b e f t = false := fun b hb => by
  obtain ⟨j, hj, rfl⟩ := List.mem_iff_getElem.1 hb
  rw [← getElem!_pos n j hj]
  by_cases hjk : j < k
  · exact h.not_lo j hjk
  · have hkn : k < n.length := by omega
    have hm := h.miss hkn
    by_cases e1 : j = k
    · subst e1; exact hm.1
    · exact none_behind (l := []) hg hkn (.inr (hm.2 [])) j (by omega) hj
theorem Pos.list {n : List BV} {e f t : Int} {k : Nat} {th : Bool} (hg : GoodN n) (h : Pos n e f t k th) : listL n e f t = if th = true then (n[k]!).l else [] := by
  cases th
  · rw [if_neg (by decide)]
    exact lenL_zero (h.none hg)
  · rw [if_pos rfl]
    exact list_hit h.hit.1 h.not_lo h.hit.2
theorem Pos.some {n : List BV} {e f t : Int} {k : Nat} {th : Bool} (hg : GoodN n) (h : Pos n e f t k th) (hl : 0 < (listL n e f t).length) : th = true := by
  cases th
  · rw [h.list hg] at hl; simp at hl
  · rfl
theorem Pos.zero {n : List BV} {e f t : Int} {k : Nat} {th : Bool} (hg : GoodN n) (h : Pos n e f t k th) (hl : (listL n e f t).length = 0) : th = false := by
  cases th
  · rfl
  · rw [h.list hg, if_pos rfl] at hl
    have := (okB_iff _).1 (hg.1 n[k]! (by rw [getElem!_pos n k h.hit.1]; exact List.getElem_mem _))
    omega
theorem Pos.ahead {n : List BV} {e f t : Int} {k : Nat} {th : Bool} {l : List MV} (h : Pos n e f t k th) : ∀ j, j < k → isB n[j]! e f t = false ∧ aheadB ⟨e, f, t, l⟩ n[j]! = false := fun j hj => by
  refine ⟨h.not_lo j hj, ?_⟩
  have h1 := (aheadB_iff _ _).1 (h.lo j hj)
  cases q : aheadB ⟨e, f, t, l⟩ n[j]!
  · rfl
  · rw [aheadB_iff] at q
    simp only at h1 q
    omega
/-- a message goes into a box that is there -/
theorem Pos.put_old {n : List BV} {f t : Int} {m : MV} {k : Nat} (h : Pos n m.e f t k true) : putL n f t m = n.set k ⟨m.e, f, t, (n[k]!).l ++ [m]⟩ := by
  rw [put_hit h.hit.1 h.ahead h.hit.2, List.set_eq_take_append_cons_drop, if_pos h.hit.1, List.append_assoc]
  rfl
/-- or into a fresh one -/
theorem Pos.put_fresh {n : List BV} {f t : Int} {m : MV} {k : Nat} (h : Pos n m.e f t k false) : putL n f t m = n.take k ++ ⟨m.e, f, t, [m]⟩ :: n.drop k := by
  by_cases hk : k < n.length
  · rw [put_new hk h.ahead (h.miss hk).1 ((h.miss hk).2 _), List.drop_eq_getElem_cons hk, getElem!_pos n k hk]
    simp
  · have : k = n.length := by have := h.le; omega
    subst this
    rw [put_end h.ahead, List.take_length, List.drop_length]
theorem take_at {n : List BV} {e f t : Int} {i : Nat} : ∀ {k : Nat}, k < n.length → (∀ j, j < k → isB n[j]! e f t = false) → isB n[k]! e f t = true → takeL n e f t i = if (n[k]!).l.length = 1 then n.eraseIdx k else n.set k ⟨(n[k]!).e, (n[k]!).f, (n[k]!).t, (n[k]!).l.eraseIdx i⟩ := by
  induction n with
  | nil => intro k hk; exact absurd hk (Nat.not_lt_zero k)
  | cons b n ih =>
    intro k hk hno hyes
    cases k with
    | zero =>
      have h : isB b e f t = true := hyes
      simp only [takeL]
      rw [if_pos h]
      rfl
    | succ k =>
      have h0 : isB b e f t = false := hno 0 (by omega)
      simp only [takeL]
      rw [if_neg (by rw [h0]; decide), ih (k := k) (by simpa using hk) (fun j hj => hno (j + 1) (by omega)) hyes]
      show b :: (if (n[k]!).l.length = 1 then _ else _) = if (n[k]!).l.length = 1 then _ else _
      split <;> rfl
set_option maxRecDepth 100000 in
set_option maxHeartbeats 16000000 in
theorem pfind_any (n : List BV) (v : Value) (e f t : Int) (w0 w : World) (hl : n.length ≤ 900000) (hg : GoodN n) (h : IsBs w0 v n) (hW : Below w0.heap.size w0 w) : Calls Try.prog 20 #[v, .int .i64 e, .int .i64 f, .int .i64 t] w (fun x W' => ∃ k th p c, x = .returned (.tuple #[.int .i64 ((k : Nat) : Int), .slice p (listL n e f t).length c]) ∧ Pos n e f t k th ∧ RM.Is w0 (.slice p (listL n e f t).length c) (listL n e f t) ∧ (listL n e f t).length ≤ c ∧ Below w.heap.size w W') := by
  have HS := Lib.hid (pbsearch_any n v e f t w hl hg (h.below hW))
  have HW := Lib.hid hW
  have HLi : Hid (∀ k th, Pos n e f t k th → listL n e f t = if th = true then (n[k]!).l else []) := fun k th h => h.list hg
  obtain ⟨p, c, rfl, ho⟩ := h.opened2
  have HO := Lib.hid ho
  clear h ho hg hW
  go_enter Try.func20, Try.ntmps20
  go_wp2_with fail
  refine (HS.out).mono ?_
  rintro x w1 ⟨k, th, rfl, hp, hb1⟩
  have HB := Lib.hid hb1
  have HP := Lib.hid hp
  have hli := HLi.out k th hp
  clear hb1 hp HS HLi
  cases th
  · rw [if_neg (by decide)] at hli
    have HL := Lib.hid hli
    clear hli
    go_wp2
    go_returns
    exact ⟨k, false, none, 0, by rw [HL.out]; rfl, HP.out, by rw [HL.out]; exact RowKind.Is.nil _, by rw [HL.out]; exact Nat.zero_le _, HB.out⟩
  · rw [if_pos rfl] at hli
    have HL := Lib.hid hli
    clear hli
    obtain ⟨b, off, q, d, rfl, hI, hd, hc⟩ := HO.out k HP.out.hit.1
    obtain ⟨e0, e1, e2, e3⟩ := hc w1 (bcall HW.out HB.out HW.out.size)
    have HI := Lib.hid hI
    have HD := Lib.hid hd
    have hkz : (k : Int) < (n.length : Int) := by have := HP.out.hit.1; omega
    generalize (n[k]!).l = li at *
    have E3 := fun p => beh_cell e3 p
    clear e0 e1 e2 e3 hI hd hc
    go_wp2_with fail
    refine wp_region_beh (by kernel_rfl) (by kernel_rfl) ?_
    repeat (first | go_big_quiet_step (fail) | quiet_step (fail))
    refine wpQuiet_nil ?_
    intro _ hw'
    obtain ⟨g, hw''⟩ := hw'
    subst hw''
    have HBg := Lib.hid (bcall HB.out g.h HB.out.size)
    generalize g.w = wq at *
    clear g
    go_wp2
    go_returns
    exact ⟨k, true, q, d, by rw [HL.out]; rfl, HP.out, by rw [HL.out]; exact HI.out, by rw [HL.out]; exact HD.out, HBg.out⟩
end Go.Proofs.Ytdgnblkoohakeaa
