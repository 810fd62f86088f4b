/- plain: operators that go by keys; of nothing nothing -/
import Derived.Test.YtgmpgemgoplafaaG09
import Derived.Test.YtgmpgemgoplafaaG07
namespace Go.Proofs.Ytgmpgemgoplafaa
open Go.RowKit
set_option linter.unusedVariables false
set_option linter.unusedSimpArgs false

theorem mem_dropWhile {α : Type} {f : α → Bool} {x : α} : ∀ {l : List α}, x ∈ l.dropWhile f → x ∈ l
  | [], h => by simp at h
  | c :: l, h => by
    rw [List.dropWhile_cons] at h
    split at h
    · exact List.mem_cons_of_mem _ (mem_dropWhile h)
    · exact h
theorem mem_takeWhile {α : Type} {f : α → Bool} {x : α} : ∀ {l : List α}, x ∈ l.takeWhile f → x ∈ l
  | [], h => by simp at h
  | c :: l, h => by
    rw [List.takeWhile_cons] at h
    split at h
    · rcases List.mem_cons.1 h with rfl | h
      · simp
      · exact List.mem_cons_of_mem _ (mem_takeWhile h)
    · simp at h
theorem mem_takeO {b : List IV} {k : Int} {c : IV} (h : c ∈ takeO b k) : c ∈ b := mem_dropWhile (mem_takeWhile h)
theorem mem_restO {b : List IV} {k : Int} {c : IV} (h : c ∈ restO b k) : c ∈ b := mem_dropWhile (mem_dropWhile h)
theorem keysO_sub : ∀ (f : Nat) (a b : List IV), ∀ m ∈ keysO f a b, (∀ c ∈ m.1, c ∈ a) ∧ ∀ c ∈ m.2, c ∈ b
  | 0, _, _, m, h => by simp [keysO] at h
  | f + 1, [], _, m, h => by simp [keysO] at h
  | f + 1, c :: a, b, m, h => by
    rcases List.mem_cons.1 (show m ∈ (takeO (c :: a) c.t.k, takeO b c.t.k) :: keysO f (restO (c :: a) c.t.k) (restO b c.t.k) from h) with rfl | h
    · exact ⟨fun d hd => mem_takeO hd, fun d hd => mem_takeO hd⟩
    · have := keysO_sub f _ _ m h
      exact ⟨fun d hd => mem_restO (this.1 d hd), fun d hd => mem_restO (this.2 d hd)⟩
theorem keyO_pos {kind : Int} {x y : List IV} (hx : ∀ c ∈ x, 0 < c.n) (hy : ∀ c ∈ y, 0 < c.n) : ∀ c ∈ keyO kind x y, 0 < c.n := fun c hc => by
  unfold keyO at hc
  split at hc
  · unfold pairsO at hc
    obtain ⟨d, hd, hc⟩ := List.mem_flatMap.1 hc
    obtain ⟨e, he, rfl⟩ := List.mem_map.1 hc
    exact Int.mul_pos (hx d hd) (hy e he)
  · rw [List.mem_singleton.1 hc]
    show (0 : Int) < 1
    omega
theorem byKeysO_pos {kind : Int} {a b : List IV} (ha : ∀ c ∈ a, 0 < c.n) (hb : ∀ c ∈ b, 0 < c.n) : ∀ c ∈ byKeysO kind a b, 0 < c.n := fun c hc => by
  unfold byKeysO at hc
  obtain ⟨m, hm, hc⟩ := List.mem_flatMap.1 hc
  have s := keysO_sub _ _ _ m hm
  exact keyO_pos (fun d hd => ha d (s.1 d hd)) (fun d hd => hb d (s.2 d hd)) c hc
theorem comesO_pos {k arg : Int} {p : List NV} {a b : List IV} (ha : ∀ c ∈ a, 0 < c.n) (hb : ∀ c ∈ b, 0 < c.n) : ∀ c ∈ comesO k arg p a b, 0 < c.n := fun c hc => by
  unfold comesO at hc
  split at hc
  · exact eachO_pos (fun d hd => (List.mem_append.1 hd).elim (ha d) (hb d)) c hc
  · split at hc
    · exact byKeysO_pos ha hb c hc
    · split at hc
      · exact byKeysO_pos ha (fun d hd => by simp at hd) c hc
      · split at hc
        · exact eachO_pos ha c hc
        · simp at hc
/-- an operator's bag is right, nothing in it is there less than once, and there are no more than there is room for -/
theorem applyO_right {k arg : Int} {p : List NV} {a b : List IV} (ha : ∀ c ∈ a, 0 < c.n) (hb : ∀ c ∈ b, 0 < c.n) :
    goodI (applyO k arg p a b).1 ∧ (∀ c ∈ (applyO k arg p a b).1, 0 < c.n) ∧ manyO (applyO k arg p a b).1 ≤ 65536 ∧ ((applyO k arg p a b).2 = false → (applyO k arg p a b).1 = []) := by
  unfold applyO
  split
  · rename_i h
    have hp := comesO_pos (k := k) (arg := arg) (p := p) ha hb
    have q := togO_is hp h
    have hpos := good_pos q.1 fun u => by rw [q.2.1]; exact (atS_le_many hp u).1
    refine ⟨q.1, hpos, ?_, fun e => by simp at e⟩
    show manyO (togO _) ≤ 65536
    rw [manyO_ext q.2.1]
    exact h
  · exact ⟨goodI_nil, fun c hc => by simp at hc, by show manyO [] ≤ 65536; simp [manyO], fun _ => rfl⟩
/-- of nothing comes nothing -/
theorem applyO_none (k arg : Int) (p : List NV) : applyO k arg p [] [] = ([], true) := by
  have h : comesO k arg p [] [] = [] := by
    unfold comesO
    split
    · rfl
    · split
      · rfl
      · split
        · rfl
        · split <;> rfl
  unfold applyO
  rw [h]
  rfl
/-! ### by keys -/
/-- the keys, in the order of the bag -/
def ksO : Nat → List IV → List Int
  | 0, _ => []
  | _ + 1, [] => []
  | f + 1, c :: a => c.t.k :: ksO f (restO (c :: a) c.t.k)
/-- a key's items -/
def atK (b : List IV) (k : Int) : List IV := b.filter fun c => decide (c.t.k = k)
/-- keys don't fall -/
def upK (b : List IV) : Prop := b.Pairwise fun x y => x.t.k ≤ y.t.k
theorem good_up {b : List IV} (h : goodI b) : upK b := h.2.imp fun {x y} hxy => by
  have : x.t.k < y.t.k ∨ (x.t.k = y.t.k ∧ x.t.v < y.t.v) := by simpa [RV.lt] using hxy
  omega
theorem take_is : ∀ {b : List IV}, upK b → ∀ k, takeO b k = atK b k ∧ restO b k = b.filter fun c => decide (k < c.t.k)
  | [], _, k => ⟨rfl, rfl⟩
  | c :: b, h, k => by
    have hb := (List.pairwise_cons.1 h).2
    have hc := (List.pairwise_cons.1 h).1
    have ih := take_is hb k
    by_cases h1 : c.t.k < k
    · have e : dropO (c :: b) k = dropO b k := by unfold dropO; rw [List.dropWhile_cons, if_pos (by simpa using h1)]
      unfold takeO restO at ih ⊢
      rw [e]
      refine ⟨?_, ?_⟩
      · rw [ih.1]; unfold atK; rw [List.filter_cons, if_neg (by simp; omega)]
      · rw [ih.2, List.filter_cons, if_neg (by simp; omega)]
    · have e : dropO (c :: b) k = c :: b := by unfold dropO; rw [List.dropWhile_cons, if_neg (by simpa using h1)]
      unfold takeO restO
      rw [e]
      by_cases h2 : c.t.k = k
      · have e2 : dropO b k = b := by
          unfold dropO
          cases b with
          | nil => rfl
          | cons d b => rw [List.dropWhile_cons, if_neg (by have := hc d (by simp); simp; omega)]
        unfold takeO restO at ih
        rw [e2] at ih
        refine ⟨?_, ?_⟩
        · rw [List.takeWhile_cons, if_pos (by simpa using h2), ih.1]
          unfold atK
          rw [List.filter_cons, if_pos (by simpa using h2)]
        · rw [List.dropWhile_cons, if_pos (by simpa using h2), ih.2, List.filter_cons, if_neg (by simp; omega)]
      · have hgt : ∀ d ∈ b, k < d.t.k := fun d hd => by have := hc d hd; omega
        refine ⟨?_, ?_⟩
        · rw [List.takeWhile_cons, if_neg (by simpa using h2)]
          unfold atK
          rw [List.filter_cons, if_neg (by simpa using h2)]
          symm
          rw [List.filter_eq_nil_iff]
          intro d hd
          have := hgt d hd
          simp
          omega
        · rw [List.dropWhile_cons, if_neg (by simpa using h2)]
          symm
          rw [List.filter_eq_self]
          intro d hd
          rcases List.mem_cons.1 hd with rfl | hd
          · simp; omega
          · have := hgt d hd; simp; omega
theorem up_filter {b : List IV} (h : upK b) (f : IV → Bool) : upK (b.filter f) := h.filter f
/-- the keys of a bag, each with its items there and in the other one -/
theorem keysO_is : ∀ (f : Nat) (a b : List IV), upK a → upK b → keysO f a b = (ksO f a).map fun k => (atK a k, atK b k)
  | 0, _, _, _, _ => rfl
  | f + 1, [], _, _, _ => rfl
  | f + 1, c :: a, b, ha, hb => by
    have ta := take_is ha c.t.k
    have tb := take_is hb c.t.k
    have ih := keysO_is f (restO (c :: a) c.t.k) (restO b c.t.k) (by rw [ta.2]; exact up_filter ha _) (by rw [tb.2]; exact up_filter hb _)
    show (takeO (c :: a) c.t.k, takeO b c.t.k) :: keysO f (restO (c :: a) c.t.k) (restO b c.t.k) = (c.t.k :: ksO f (restO (c :: a) c.t.k)).map _
    rw [ih, List.map_cons, ta.1, tb.1]
    congr 1
    refine List.map_congr_left fun k hk => ?_
    have hlt : c.t.k < k := by
      have : ∀ (f : Nat) (r : List IV), (∀ d ∈ r, c.t.k < d.t.k) → ∀ k ∈ ksO f r, c.t.k < k := fun f => by
        induction f with
        | zero => intro r _ k hk; simp [ksO] at hk
        | succ f ihf =>
          intro r hr k hk
          cases r with
          | nil => simp [ksO] at hk
          | cons d r =>
            rcases List.mem_cons.1 (show k ∈ d.t.k :: ksO f (restO (d :: r) d.t.k) from hk) with rfl | hk
            · exact hr d (by simp)
            · exact ihf _ (fun e he => hr e (mem_restO he)) k hk
      refine this f _ (fun d hd => ?_) k hk
      rw [ta.2] at hd
      have := (List.mem_filter.1 hd).2
      simpa using this
    have fil : ∀ l : List IV, atK (l.filter fun d => decide (c.t.k < d.t.k)) k = atK l k := fun l => by
      unfold atK
      rw [List.filter_filter]
      refine List.filter_congr fun d _ => ?_
      by_cases e : d.t.k = k
      · simp [e, hlt]
      · simp [e]
    rw [ta.2, tb.2, fil, fil]
theorem mem_ks : ∀ (f : Nat) (a : List IV), upK a → a.length ≤ f → ∀ k, k ∈ ksO f a ↔ ∃ c ∈ a, c.t.k = k
  | 0, a, _, hl, k => by
    obtain rfl : a = [] := List.length_eq_zero_iff.1 (Nat.le_zero.1 hl)
    simp [ksO]
  | f + 1, [], _, _, k => by simp [ksO]
  | f + 1, c :: a, ha, hl, k => by
    have ta := take_is ha c.t.k
    have ih := mem_ks f (restO (c :: a) c.t.k) (by rw [ta.2]; exact up_filter ha _) (by have := restO_head c a; rw [List.length_cons] at hl; omega) k
    show k ∈ c.t.k :: ksO f (restO (c :: a) c.t.k) ↔ _
    rw [List.mem_cons, ih, ta.2]
    constructor
    · rintro (rfl | ⟨d, hd, rfl⟩)
      · exact ⟨c, by simp, rfl⟩
      · exact ⟨d, (List.mem_filter.1 hd).1, rfl⟩
    · rintro ⟨d, hd, rfl⟩
      by_cases e : d.t.k = c.t.k
      · exact .inl e
      · refine .inr ⟨d, List.mem_filter.2 ⟨hd, ?_⟩, rfl⟩
        rcases List.mem_cons.1 hd with rfl | hd
        · exact absurd rfl e
        · have := (List.pairwise_cons.1 ha).1 d hd
          simp; omega
end Go.Proofs.Ytgmpgemgoplafaa
/- the program's own number, sum, difference, product, quotient, reckon -/
namespace Go.Proofs.Ytgmpgemgoplafaa
open Go.RowKit
set_option linter.unusedVariables false
set_option linter.unusedSimpArgs false

abbrev wV (x : Int) : Value := .tuple #[.int .i64 (wrap64 x), .bool (decide (inR x))]
/-- the call returns the value v, and has drawn, no more -/
def RetN (v : Value) (w : World) (e : Ending) (w' : World) : Prop := e = .returned v ∧ ∃ n, w' = w.drewN n
theorem RetW.n {v : Value} {w : World} {e : Ending} {w' : World} (h : RetW v w e w') : RetN v w e w' := ⟨h.1, 0, h.2⟩
set_option maxHeartbeats 2000000 in
theorem pnumber_any (c : Bool) (w : World) : Calls Try.prog 104 #[.bool c] w (RetW (.int .i64 (if c = true then 1 else 0)) w) := by
  cases c
  all_goals
    go_enter Try.func104, Try.ntmps104
    go_wp2
    go_returns
    exact ⟨rfl, rfl⟩
theorem sum_test {a b : Int} (ha : inR a) (hb : inR b) : (decide (wrap64 (a + b) < a) == decide (b < 0)) = decide (inR (a + b)) := by
  have h : (wrap64 (a + b) < a ↔ b < 0) ↔ inR (a + b) := by
    unfold inR at *
    unfold wrap64
    omega
  rw [Bool.eq_iff_iff, beq_iff_eq, decide_eq_decide, decide_eq_true_eq, h]
theorem diff_test {a b : Int} (ha : inR a) (hb : inR b) : (decide (wrap64 (a - b) > a) == decide (b < 0)) = decide (inR (a - b)) := by
  have h : (wrap64 (a - b) > a ↔ b < 0) ↔ inR (a - b) := by
    unfold inR at *
    unfold wrap64
    omega
  rw [Bool.eq_iff_iff, beq_iff_eq, decide_eq_decide, decide_eq_true_eq, h]
theorem retV {u v : Value} (h : u = v) : Ending.returned u = .returned v := by rw [h]
set_option maxHeartbeats 4000000 in
theorem psum_any (a b : Int) (ha : inR a) (hb : inR b) (w : World) : Calls Try.prog 100 #[.int .i64 a, .int .i64 b] w (RetW (wV (a + b)) w) := by
  have ht := sum_test ha hb
  unfold wV
  generalize decide (inR (a + b)) = V at *
  have HT := Lib.hid ht
  clear ht ha hb
  go_enter Try.func100, Try.ntmps100
  go_wp2
  go_returns
  exact ⟨retV (by rw [← HT.out]; rfl), rfl⟩
set_option maxHeartbeats 4000000 in
theorem pdifference_any (a b : Int) (ha : inR a) (hb : inR b) (w : World) : Calls Try.prog 101 #[.int .i64 a, .int .i64 b] w (RetW (wV (a - b)) w) := by
  have ht := diff_test ha hb
  unfold wV
  generalize decide (inR (a - b)) = V at *
  have HT := Lib.hid ht
  clear ht ha hb
  go_enter Try.func101, Try.ntmps101
  go_wp2
  go_returns
  exact ⟨retV (by rw [← HT.out]; rfl), rfl⟩
set_option maxHeartbeats 4000000 in
theorem pproduct_any (a b : Int) (ha : inR a) (hb : inR b) (w : World) : Calls Try.prog 102 #[.int .i64 a, .int .i64 b] w (RetN (wV (a * b)) w) := by
  by_cases a0 : a = 0
  · subst a0
    have hv : wV (0 * b) = .tuple #[.int .i64 0, .bool true] := by unfold wV; rw [Int.zero_mul, wrap_in (by decide), decide_eq_true (by decide)]
    rw [hv]
    clear hv ha hb
    go_enter Try.func102, Try.ntmps102
    go_wp2
    all_goals go_returns
    all_goals exact ⟨rfl, 0, rfl⟩
  by_cases a1 : a = -1
  · subst a1
    have HC := Lib.hid (fun W => pdifference_any 0 b (by decide) hb W)
    rw [show (0 : Int) - b = -1 * b by omega] at HC
    unfold wV at *
    generalize wrap64 (-1 * b) = n at *
    generalize decide (inR (-1 * b)) = V at *
    clear ha hb a0
    go_enter Try.func102, Try.ntmps102
    go_wp2_with fail
    refine (HC.out _).mono ?_
    rintro e w1 ⟨rfl, rfl⟩
    go_wp2
    all_goals go_returns
    all_goals exact ⟨rfl, 0, rfl⟩
  have e0 : (a == 0) = false := by simpa using a0
  have e1 : (a == -1) = false := by simpa using a1
  have ht := prod_test hb ha a0
  rw [Int.mul_comm b a] at ht
  have hq : wrap64 ((wrap64 (a * b)).tdiv a) = (wrap64 (a * b)).tdiv a := wrap_in (tdiv_in (wrap_range _) a0 (fun e => a1 e.1))
  have hd : (wrap64 ((wrap64 (a * b)).tdiv a) == b) = decide (inR (a * b)) := by rw [hq, Bool.eq_iff_iff, beq_iff_eq, ht, decide_eq_true_eq]
  unfold wV
  generalize decide (inR (a * b)) = V at *
  have HD := Lib.hid hd
  clear hd ht hq ha hb a1
  go_enter Try.func102, Try.ntmps102
  go_wp2_with fail
  go_quiet (fail)
  go_wp2
  go_returns
  exact ⟨retV (by rw [← HD.out]; rfl), _, rfl⟩
set_option maxHeartbeats 4000000 in
theorem pquotient_any (a b : Int) (ha : inR a) (hb : inR b) (h0 : b ≠ 0) (w : World) : Calls Try.prog 103 #[.int .i64 a, .int .i64 b] w (RetW (wV (a.tdiv b)) w) := by
  by_cases b1 : b = -1
  · subst b1
    have HC := Lib.hid (fun W => pdifference_any 0 a (by decide) ha W)
    rw [show (0 : Int) - a = a.tdiv (-1) by rw [Int.tdiv_neg, Int.tdiv_one]; omega] at HC
    unfold wV at *
    generalize wrap64 (a.tdiv (-1)) = n at *
    generalize decide (inR (a.tdiv (-1))) = V at *
    clear ha hb h0
    go_enter Try.func103, Try.ntmps103
    go_wp2_with fail
    refine (HC.out _).mono ?_
    rintro e w1 ⟨rfl, rfl⟩
    go_wp2
    all_goals go_returns
    all_goals exact ⟨rfl, rfl⟩
  have e0 : (b == 0) = false := by simpa using h0
  have e1 : (b == -1) = false := by simpa using b1
  have hd := tdiv_in ha h0 (fun e => b1 e.1)
  have hv : wV (a.tdiv b) = .tuple #[.int .i64 (wrap64 (a.tdiv b)), .bool true] := by unfold wV; rw [decide_eq_true hd]
  rw [hv]
  clear hv hd ha hb b1
  go_enter Try.func103, Try.ntmps103
  go_wp2
  all_goals go_returns
  all_goals exact ⟨rfl, rfl⟩
end Go.Proofs.Ytgmpgemgoplafaa
