/- mailboxes as plain facts: right, put, take, how many, all -/
import Derived.Test.YtdgnblkoohakeaaRow
namespace Go.Proofs.Ytdgnblkoohakeaa
open Go.RowKit
set_option linter.unusedVariables false
set_option linter.unusedSimpArgs false

/-- a message -/
structure MV where
  e : Int
  d : Int
  c0 : Int
  c1 : Int
  c2 : Int
  c3 : Int
  k : Int
  v : Int
  n : Int
  c : Int
instance : Inhabited MV := ⟨⟨0, 0, 0, 0, 0, 0, 0, 0, 0, 0⟩⟩
theorem mv_eq {x y : MV} (h0 : x.e = y.e) (h1 : x.d = y.d) (h2 : x.c0 = y.c0) (h3 : x.c1 = y.c1) (h4 : x.c2 = y.c2) (h5 : x.c3 = y.c3) (h6 : x.k = y.k) (h7 : x.v = y.v) (h8 : x.n = y.n) (h9 : x.c = y.c) : x = y := by
  cases x; cases y
  simp only at h0 h1 h2 h3 h4 h5 h6 h7 h8 h9
  subst h0; subst h1; subst h2; subst h3; subst h4; subst h5; subst h6; subst h7; subst h8; subst h9
  rfl
instance : DecidableEq MV := fun x y => if h : x.e = y.e ∧ x.d = y.d ∧ x.c0 = y.c0 ∧ x.c1 = y.c1 ∧ x.c2 = y.c2 ∧ x.c3 = y.c3 ∧ x.k = y.k ∧ x.v = y.v ∧ x.n = y.n ∧ x.c = y.c
  then isTrue (by obtain ⟨h0, h1, h2, h3, h4, h5, h6, h7, h8, h9⟩ := h; exact mv_eq h0 h1 h2 h3 h4 h5 h6 h7 h8 h9)
  else isFalse (fun e => h (by rw [e]; exact ⟨rfl, rfl, rfl, rfl, rfl, rfl, rfl, rfl, rfl, rfl⟩))
/-- a mailbox -/
structure BV where
  e : Int
  f : Int
  t : Int
  l : List MV
instance : Inhabited BV := ⟨⟨0, 0, 0, []⟩⟩
theorem bv_eq {x y : BV} (h0 : x.e = y.e) (h1 : x.f = y.f) (h2 : x.t = y.t) (h3 : x.l = y.l) : x = y := by
  cases x; cases y
  simp only at h0 h1 h2 h3
  subst h0; subst h1; subst h2; subst h3
  rfl
instance : DecidableEq BV := fun x y => if h : x.e = y.e ∧ x.f = y.f ∧ x.t = y.t ∧ x.l = y.l
  then isTrue (by obtain ⟨h0, h1, h2, h3⟩ := h; exact bv_eq h0 h1 h2 h3)
  else isFalse (fun e => h (by rw [e]; exact ⟨rfl, rfl, rfl, rfl⟩))
/-- does one stand ahead of another one? -/
def aheadB (a b : BV) : Bool := decide (a.e < b.e ∨ (a.e = b.e ∧ (a.f < b.f ∨ (a.f = b.f ∧ a.t < b.t))))
theorem aheadB_iff (a b : BV) : aheadB a b = true ↔ a.e < b.e ∨ (a.e = b.e ∧ (a.f < b.f ∨ (a.f = b.f ∧ a.t < b.t))) := by unfold aheadB; exact decide_eq_true_iff
theorem ahead_trans {a b c : BV} (h : aheadB a b = true) (k : aheadB b c = true) : aheadB a c = true := by rw [aheadB_iff] at *; omega
theorem ahead_irrefl (a : BV) : aheadB a a = false := by
  cases h : aheadB a a
  · rfl
  · rw [aheadB_iff] at h; omega
theorem ahead_asym {a b : BV} (h : aheadB a b = true) : aheadB b a = false := by
  cases k : aheadB b a
  · rfl
  · rw [aheadB_iff] at *; omega
/-- is it that of an edge from a worker to a worker? -/
def isB (b : BV) (e f t : Int) : Bool := decide (b.e = e ∧ b.f = f ∧ b.t = t)
theorem isB_iff (b : BV) (e f t : Int) : isB b e f t = true ↔ b.e = e ∧ b.f = f ∧ b.t = t := by unfold isB; exact decide_eq_true_iff
theorem is_or {a b : BV} (h1 : isB b a.e a.f a.t = false) (h2 : aheadB a b = false) : aheadB b a = true := by
  cases k : aheadB b a
  · exfalso
    have n1 : ¬ (b.e = a.e ∧ b.f = a.f ∧ b.t = a.t) := fun q => by rw [(isB_iff b _ _ _).2 q] at h1; cases h1
    have n2 : ¬ (a.e < b.e ∨ (a.e = b.e ∧ (a.f < b.f ∨ (a.f = b.f ∧ a.t < b.t)))) := fun q => by rw [(aheadB_iff a b).2 q] at h2; cases h2
    have n3 : ¬ (b.e < a.e ∨ (b.e = a.e ∧ (b.f < a.f ∨ (b.f = a.f ∧ b.t < a.t)))) := fun q => by rw [(aheadB_iff b a).2 q] at k; cases k
    omega
  · rfl
/-- one box alone is as it should be -/
def okB (b : BV) : Bool := decide ((0 ≤ b.e ∧ 0 ≤ b.f ∧ 0 ≤ b.t) ∧ (0 < b.l.length ∧ b.l.length ≤ 4096) ∧ ∀ m ∈ b.l, m.e = b.e)
theorem okB_iff (b : BV) : okB b = true ↔ (0 ≤ b.e ∧ 0 ≤ b.f ∧ 0 ≤ b.t) ∧ (0 < b.l.length ∧ b.l.length ≤ 4096) ∧ ∀ m ∈ b.l, m.e = b.e := by unfold okB; exact decide_eq_true_iff
/-- the first k are as they should be, and in their order -/
def upB (n : List BV) (k : Nat) : Bool := decide (∀ j, j < k → okB n[j]! = true ∧ (0 < j → aheadB n[j - 1]! n[j]! = true))
def rightN (n : List BV) : Bool := upB n n.length
def GoodN (n : List BV) : Prop := (∀ b ∈ n, okB b = true) ∧ n.Pairwise fun a b => aheadB a b = true
theorem upB_zero (n : List BV) : upB n 0 = true := decide_eq_true (by intro j h; omega)
theorem upB_succ {n : List BV} {k : Nat} (h : upB n k = true) (h1 : okB n[k]! = true) (h2 : 0 < k → aheadB n[k - 1]! n[k]! = true) : upB n (k + 1) = true := by
  refine decide_eq_true fun j hj => ?_
  by_cases e : j = k
  · subst e; exact ⟨h1, h2⟩
  · exact of_decide_eq_true h j (by omega)
theorem rightN_no_ok {n : List BV} {k : Nat} (hk : k < n.length) (h1 : okB n[k]! = false) : rightN n = false :=
  decide_eq_false fun h => by have := (h k hk).1; rw [h1] at this; cases this
theorem rightN_no_lt {n : List BV} {k : Nat} (hk : k < n.length) (h0 : 0 < k) (h1 : aheadB n[k - 1]! n[k]! = false) : rightN n = false :=
  decide_eq_false fun h => by have := (h k hk).2 h0; rw [h1] at this; cases this
theorem rightN_iff (n : List BV) : rightN n = true ↔ GoodN n := by
  have key : ∀ (j : Nat) (hj : j < n.length), n[j]! = n[j] := fun j hj => getElem!_pos n j hj
  unfold rightN upB
  rw [decide_eq_true_eq]
  constructor
  · intro h
    refine ⟨fun c hc => ?_, ?_⟩
    · obtain ⟨j, hj, rfl⟩ := List.mem_iff_getElem.1 hc
      have := (h j hj).1
      rwa [key j hj] at this
    · have step : ∀ (d j : Nat) (hj : j + d + 1 < n.length), aheadB (n[j]'(by omega)) (n[j + d + 1]) = true := by
        intro d
        induction d with
        | zero =>
          intro j hj
          have := (h (j + 1) hj).2 (by omega)
          rw [Nat.add_sub_cancel, key _ (by omega), key _ hj] at this
          exact this
        | succ d ih =>
          intro j hj
          have h1 := ih j (by omega)
          have h2 := (h (j + (d + 1) + 1) hj).2 (by omega)
          rw [Nat.add_sub_cancel, key _ (by omega), key _ hj] at h2
          exact ahead_trans h1 h2
      rw [List.pairwise_iff_getElem]
      intro i j hi hj hij
      have := step (j - i - 1) i (by omega)
      have e : i + (j - i - 1) + 1 = j := by omega
      simp only [e] at this
      exact this
  · rintro ⟨h1, h2⟩ j hj
    rw [key j hj]
    refine ⟨h1 _ (List.getElem_mem hj), fun h0 => ?_⟩
    rw [key (j - 1) (by omega)]
    exact List.pairwise_iff_getElem.1 h2 (j - 1) j (by omega) hj (by omega)
theorem good_tailN {b : BV} {n : List BV} (h : GoodN (b :: n)) : GoodN n := ⟨fun c hc => h.1 c (List.mem_cons_of_mem _ hc), (List.pairwise_cons.1 h.2).2⟩
theorem good_nilN : GoodN [] := ⟨fun _ h => (by cases h), List.Pairwise.nil⟩
/-- how many lie there -/
def lenL : List BV → Int → Int → Int → Nat
  | [], _, _, _ => 0
  | b :: n, e, f, t => if isB b e f t = true then b.l.length else lenL n e f t
def lenN (n : List BV) (e f t : Int) : Nat := if rightN n = true then lenL n e f t else 0
/-- what lies there -/
def listL : List BV → Int → Int → Int → List MV
  | [], _, _, _ => []
  | b :: n, e, f, t => if isB b e f t = true then b.l else listL n e f t
theorem lenL_is (n : List BV) (e f t : Int) : lenL n e f t = (listL n e f t).length := by
  induction n with
  | nil => rfl
  | cons b n ih =>
    simp only [lenL, listL]
    split
    · rfl
    · exact ih
/-- a message is put behind the others -/
def putL : List BV → Int → Int → MV → List BV
  | [], f, t, m => [⟨m.e, f, t, [m]⟩]
  | b :: n, f, t, m => if isB b m.e f t = true then ⟨m.e, f, t, b.l ++ [m]⟩ :: n else if aheadB ⟨m.e, f, t, [m]⟩ b = true then ⟨m.e, f, t, [m]⟩ :: b :: n else b :: putL n f t m
def putOk (n : List BV) (f t room : Int) (m : MV) : Bool := decide (rightN n = true ∧ (0 ≤ f ∧ 0 ≤ t ∧ 0 ≤ m.e) ∧ (lenN n m.e f t : Int) < room ∧ lenN n m.e f t < 4096)
def putN (n : List BV) (f t room : Int) (m : MV) : List BV := if putOk n f t room m = true then putL n f t m else n
/-- one is taken -/
def takeL : List BV → Int → Int → Int → Nat → List BV
  | [], _, _, _, _ => []
  | b :: n, e, f, t, i => if isB b e f t = true then (if b.l.length = 1 then n else ⟨b.e, b.f, b.t, b.l.eraseIdx i⟩ :: n) else b :: takeL n e f t i
def takeOk (n : List BV) (e f t i : Int) : Bool := decide (0 ≤ i ∧ i < (lenN n e f t : Int))
def takeN (n : List BV) (e f t i : Int) : List BV := if takeOk n e f t i = true then takeL n e f t i.toNat else n
def takeM (n : List BV) (e f t i : Int) : MV := if takeOk n e f t i = true then (listL n e f t)[i.toNat]! else ⟨0, 0, 0, 0, 0, 0, 0, 0, 0, 0⟩
def allN (n : List BV) : List MV := if rightN n = true then n.flatMap BV.l else []
/-! ### what follows -/
theorem lenL_zero {n : List BV} {e f t : Int} (h : ∀ b ∈ n, isB b e f t = false) : listL n e f t = [] := by
  induction n with
  | nil => rfl
  | cons b n ih =>
    simp only [listL]
    rw [if_neg (by rw [h b List.mem_cons_self]; decide)]
    exact ih fun c hc => h c (List.mem_cons_of_mem _ hc)
/-- behind a box that stands behind, there is none of that name -/
theorem no_more {b : BV} {n : List BV} (h : GoodN (b :: n)) {e f t : Int} (hb : isB b e f t = true ∨ aheadB ⟨e, f, t, []⟩ b = true) : ∀ c ∈ n, isB c e f t = false := fun c hc => by
  have hl := (List.pairwise_cons.1 h.2).1 c hc
  cases q : isB c e f t
  · rfl
  · exfalso
    rw [isB_iff] at q
    rw [aheadB_iff] at hl
    rcases hb with hb | hb
    · rw [isB_iff] at hb; omega
    · rw [aheadB_iff] at hb; simp only at hb; omega
theorem put_mem {n : List BV} {f t : Int} {m : MV} {c : BV} (hc : c ∈ putL n f t m) : c ∈ n ∨ (c.e = m.e ∧ c.f = f ∧ c.t = t) := by
  induction n with
  | nil =>
    simp only [putL, List.mem_singleton] at hc
    subst hc
    exact .inr ⟨rfl, rfl, rfl⟩
  | cons b n ih =>
    simp only [putL] at hc
    split at hc
    · rcases List.mem_cons.1 hc with rfl | hc
      · exact .inr ⟨rfl, rfl, rfl⟩
      · exact .inl (List.mem_cons_of_mem _ hc)
    · split at hc
      · rcases List.mem_cons.1 hc with rfl | hc
        · exact .inr ⟨rfl, rfl, rfl⟩
        · exact .inl hc
      · rcases List.mem_cons.1 hc with rfl | hc
        · exact .inl List.mem_cons_self
        · rcases ih hc with h | h
          · exact .inl (List.mem_cons_of_mem _ h)
          · exact .inr h
theorem put_good {n : List BV} {f t : Int} {m : MV} (hn : GoodN n) (h0 : 0 ≤ f ∧ 0 ≤ t ∧ 0 ≤ m.e) (hl : lenL n m.e f t < 4096) : GoodN (putL n f t m) := by
  induction n with
  | nil =>
    refine ⟨fun c hc => ?_, List.pairwise_singleton _ _⟩
    simp only [putL, List.mem_singleton] at hc
    subst hc
    exact (okB_iff _).2 ⟨⟨h0.2.2, h0.1, h0.2.1⟩, ⟨by simp, by simp⟩, fun x hx => by simp only [List.mem_singleton] at hx; subst hx; rfl⟩
  | cons b n ih =>
    have hb := (okB_iff b).1 (hn.1 b List.mem_cons_self)
    simp only [putL, lenL] at hl ⊢
    split
    · rename_i q
      rw [if_pos q] at hl
      have e := (isB_iff b _ _ _).1 q
      refine ⟨fun c hc => ?_, List.pairwise_cons.2 ⟨fun c hc => ?_, (List.pairwise_cons.1 hn.2).2⟩⟩
      · rcases List.mem_cons.1 hc with rfl | hc
        · refine (okB_iff _).2 ⟨⟨h0.2.2, h0.1, h0.2.1⟩, ⟨by simp, by simp; omega⟩, fun x hx => ?_⟩
          rcases List.mem_append.1 hx with hx | hx
          · have := hb.2.2 x hx; show x.e = m.e; rw [this]; exact e.1
          · simp only [List.mem_singleton] at hx; subst hx; rfl
        · exact hn.1 c (List.mem_cons_of_mem _ hc)
      · have := (List.pairwise_cons.1 hn.2).1 c hc
        rw [aheadB_iff] at *
        simp only
        omega
    · rename_i q
      rw [if_neg q] at hl
      split
      · rename_i a
        refine ⟨fun c hc => ?_, List.pairwise_cons.2 ⟨fun c hc => ?_, hn.2⟩⟩
        · rcases List.mem_cons.1 hc with rfl | hc
          · exact (okB_iff _).2 ⟨⟨h0.2.2, h0.1, h0.2.1⟩, ⟨by simp, by simp⟩, fun x hx => by simp only [List.mem_singleton] at hx; subst hx; rfl⟩
          · exact hn.1 c hc
        · rcases List.mem_cons.1 hc with rfl | hc
          · exact a
          · exact ahead_trans a ((List.pairwise_cons.1 hn.2).1 c hc)
      · rename_i a
        have I := ih (good_tailN hn) hl
        refine ⟨fun c hc => ?_, List.pairwise_cons.2 ⟨fun c hc => ?_, I.2⟩⟩
        · rcases List.mem_cons.1 hc with rfl | hc
          · exact hn.1 c List.mem_cons_self
          · exact I.1 c hc
        · rcases put_mem hc with hc | hc
          · exact (List.pairwise_cons.1 hn.2).1 c hc
          · have hq : isB b m.e f t = false := by cases k : isB b m.e f t <;> simp_all
            have ha : aheadB ⟨m.e, f, t, [m]⟩ b = false := by cases k : aheadB ⟨m.e, f, t, [m]⟩ b <;> simp_all
            have := is_or (a := ⟨m.e, f, t, [m]⟩) hq ha
            rw [aheadB_iff] at *
            simp only at this
            omega
theorem take_sub {n : List BV} {e f t : Int} {i : Nat} {c : BV} (hc : c ∈ takeL n e f t i) : ∃ b ∈ n, c.e = b.e ∧ c.f = b.f ∧ c.t = b.t := by
  induction n with
  | nil => cases hc
  | cons b n ih =>
    simp only [takeL] at hc
    split at hc
    · split at hc
      · exact ⟨c, List.mem_cons_of_mem _ hc, rfl, rfl, rfl⟩
      · rcases List.mem_cons.1 hc with rfl | hc
        · exact ⟨b, List.mem_cons_self, rfl, rfl, rfl⟩
        · exact ⟨c, List.mem_cons_of_mem _ hc, rfl, rfl, rfl⟩
    · rcases List.mem_cons.1 hc with rfl | hc
      · exact ⟨c, List.mem_cons_self, rfl, rfl, rfl⟩
      · obtain ⟨b', hb', h⟩ := ih hc
        exact ⟨b', List.mem_cons_of_mem _ hb', h⟩
theorem take_good {n : List BV} {e f t : Int} {i : Nat} (hn : GoodN n) (hi : i < lenL n e f t) : GoodN (takeL n e f t i) := by
  induction n with
  | nil => exact good_nilN
  | cons b n ih =>
    have hb := (okB_iff b).1 (hn.1 b List.mem_cons_self)
    simp only [takeL, lenL] at hi ⊢
    split
    · rename_i q
      rw [if_pos q] at hi
      split
      · exact good_tailN hn
      · rename_i h1
        refine ⟨fun c hc => ?_, List.pairwise_cons.2 ⟨fun c hc => ?_, (List.pairwise_cons.1 hn.2).2⟩⟩
        · rcases List.mem_cons.1 hc with rfl | hc
          · refine (okB_iff _).2 ⟨hb.1, ⟨?_, ?_⟩, fun x hx => hb.2.2 x (List.mem_of_mem_eraseIdx hx)⟩
            · simp only [List.length_eraseIdx]; rw [if_pos hi]; omega
            · simp only [List.length_eraseIdx]; rw [if_pos hi]; omega
          · exact hn.1 c (List.mem_cons_of_mem _ hc)
        · have := (List.pairwise_cons.1 hn.2).1 c hc
          rw [aheadB_iff] at *
          exact this
    · rename_i q
      rw [if_neg q] at hi
      have I := ih (good_tailN hn) hi
      refine ⟨fun c hc => ?_, List.pairwise_cons.2 ⟨fun c hc => ?_, I.2⟩⟩
      · rcases List.mem_cons.1 hc with rfl | hc
        · exact hn.1 c List.mem_cons_self
        · exact I.1 c hc
      · obtain ⟨b', hb', e1, e2, e3⟩ := take_sub hc
        have := (List.pairwise_cons.1 hn.2).1 b' hb'
        rw [aheadB_iff] at *
        omega
end Go.Proofs.Ytdgnblkoohakeaa
