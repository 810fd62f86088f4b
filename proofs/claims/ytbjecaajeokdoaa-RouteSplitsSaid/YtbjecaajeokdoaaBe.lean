/- two records, two items, two lists of either: the same? -/
import Derived.Test.YtbjecaajeokdoaaBa
import Derived.Laws.StructEq
namespace Go.Proofs.Ytbjecaajeokdoaa
open Go.RowKit
set_option linter.unusedVariables false
set_option linter.unusedSimpArgs false

def eqR (a b : RV) : Bool := decide (a = b)
def eqI (a b : IV) : Bool := decide (a = b)
theorem eqR_iff (a b : RV) : eqR a b = (decide (a.k = b.k) && decide (a.v = b.v)) := by
  rw [Bool.eq_iff_iff]
  simp only [eqR, decide_eq_true_eq, Bool.and_eq_true]
  constructor
  · intro h; subst h; exact ⟨rfl, rfl⟩
  · rintro ⟨h0, h1⟩; exact RV.ext2 h0 h1
theorem eqI_iff (a b : IV) : eqI a b = (eqR a.t b.t && decide (a.n = b.n)) := by
  rw [Bool.eq_iff_iff]
  simp only [eqI, eqR, decide_eq_true_eq, Bool.and_eq_true]
  constructor
  · intro h; subst h; exact ⟨rfl, rfl⟩
  · rintro ⟨h0, h1⟩; cases a; cases b; simp only at h0 h1; subst h0; subst h1; rfl
set_option maxRecDepth 100000 in
theorem eqRecIn (d : Nat) (a0 a1 b0 b1 : Int) (w : World) : (Op.equalIn (d + 1 + 1) 29 (.agg #[.int .i64 a0, .int .i64 a1]) (.agg #[.int .i64 b0, .int .i64 b1])).run Try.prog w = .ok (eqR ⟨a0, a1⟩ ⟨b0, b1⟩) w := by
  have u3 := Try.underlying2
  have hS : Try.prog.underlying 29 = some (.struct (Try.prog.fieldsOf 29)) := by kernel_rfl
  have hp : Try.prog.stoodInHeld 29 = false := by kernel_rfl
  rw [run_equalIn_agg w (d + 1) 29 _ _ hS hp]
  simp only [Program.fieldsOf, Try.underlying29]
  rw [eqR_iff]
  simp only
  go_simp
  by_cases h0 : a0 = b0 <;> by_cases h1 : a1 = b1 <;> simp [h0, h1, Result.andThen]
set_option maxRecDepth 100000 in
theorem eqRec (a0 a1 b0 b1 : Int) (w : World) : (binOp .eql 29 (.agg #[.int .i64 a0, .int .i64 a1]) (.agg #[.int .i64 b0, .int .i64 b1])).run Try.prog w = .ok (.bool (eqR ⟨a0, a1⟩ ⟨b0, b1⟩)) w := by
  rw [run_eql_struct, show (10000 : Nat) = 9998 + 1 + 1 from rfl, eqRecIn]
  rfl
set_option maxRecDepth 100000 in
theorem neRec (a0 a1 b0 b1 : Int) (w : World) : (binOp .neq 29 (.agg #[.int .i64 a0, .int .i64 a1]) (.agg #[.int .i64 b0, .int .i64 b1])).run Try.prog w = .ok (.bool (!eqR ⟨a0, a1⟩ ⟨b0, b1⟩)) w := by
  rw [run_neq_struct, show (10000 : Nat) = 9998 + 1 + 1 from rfl, eqRecIn]
  rfl
set_option maxRecDepth 100000 in
theorem eqItemIn (d : Nat) (a0 a1 a2 b0 b1 b2 : Int) (w : World) : (Op.equalIn (d + 1 + 1 + 1) 31 (.agg #[.int .i64 a0, .int .i64 a1, .int .i64 a2]) (.agg #[.int .i64 b0, .int .i64 b1, .int .i64 b2])).run Try.prog w = .ok (eqI ⟨⟨a0, a1⟩, a2⟩ ⟨⟨b0, b1⟩, b2⟩) w := by
  have u3 := Try.underlying3
  have hS : Try.prog.underlying 31 = some (.struct (Try.prog.fieldsOf 31)) := by kernel_rfl
  have hp : Try.prog.stoodInHeld 31 = false := by kernel_rfl
  have hR := eqRecIn d a0 a1 b0 b1
  rw [run_equalIn_agg w (d + 1 + 1) 31 _ _ hS hp]
  simp only [Program.fieldsOf, Try.underlying31]
  rw [eqI_iff]
  simp only
  go_simp
  generalize eqR ⟨a0, a1⟩ ⟨b0, b1⟩ = q at *
  by_cases h2 : a2 = b2 <;> cases q <;> simp [h2, Result.andThen, hR]
set_option maxRecDepth 100000 in
theorem eqItem (a0 a1 a2 b0 b1 b2 : Int) (w : World) : (binOp .eql 31 (.agg #[.int .i64 a0, .int .i64 a1, .int .i64 a2]) (.agg #[.int .i64 b0, .int .i64 b1, .int .i64 b2])).run Try.prog w = .ok (.bool (eqI ⟨⟨a0, a1⟩, a2⟩ ⟨⟨b0, b1⟩, b2⟩)) w := by
  rw [run_eql_struct, show (10000 : Nat) = 9997 + 1 + 1 + 1 from rfl, eqItemIn]
  rfl
set_option maxRecDepth 100000 in
theorem neItem (a0 a1 a2 b0 b1 b2 : Int) (w : World) : (binOp .neq 31 (.agg #[.int .i64 a0, .int .i64 a1, .int .i64 a2]) (.agg #[.int .i64 b0, .int .i64 b1, .int .i64 b2])).run Try.prog w = .ok (.bool (!eqI ⟨⟨a0, a1⟩, a2⟩ ⟨⟨b0, b1⟩, b2⟩)) w := by
  rw [run_neq_struct, show (10000 : Nat) = 9997 + 1 + 1 + 1 from rfl, eqItemIn]
  rfl
attribute [local go_sem ↓] eqRec neRec eqItem neItem

set_option maxRecDepth 100000 in
set_option maxHeartbeats 4000000 in
theorem bequal_row (xs ys : List IV) (b off cap b2 off2 cap2 : Nat) (w : World) (hl : xs.length ≤ 900000) (hlen : xs.length = ys.length) (hb : b < w.heap.size) (hr : RI.Row w b off xs) (hb2 : b2 < w.heap.size) (hr2 : RI.Row w b2 off2 ys) :
    Calls Try.prog 17 #[.slice (some ⟨b, off, none⟩) xs.length cap, .slice (some ⟨b2, off2, none⟩) ys.length cap2] w (Ret (.bool (decide (xs = ys))) w) := by
  have hrow : Hid (∀ (W : World), Below w.heap.size w W → ∀ j, j < xs.length → _) := fun W hW j hj => atI (hr.below hW hb) j hj
  have hrow2 : Hid (∀ (W : World), Below w.heap.size w W → ∀ j, j < ys.length → _) := fun W hW j hj => atI (hr2.below hW hb2) j hj
  clear hr hr2
  rw [← hlen]
  generalize hn : xs.length = n at hl hlen
  have HN := Lib.hid hn
  have HM := Lib.hid hlen
  clear hn hlen
  generalize hres : decide (xs = ys) = res
  have HR := Lib.hid hres
  clear hres
  go_enter Try.func17, Try.ntmps17
  go_wp2
  go_loopg [13] n (fun gg i wr => ∃ k : Nat, k ≤ n ∧ n - k ≤ gg ∧ i = .int .i64 k ∧ Hid (Below w.heap.size w wr) ∧ Hid (xs.take k = ys.take k))
  case atStart => exact ⟨0, Nat.zero_le _, by omega, rfl, (Below.refl _ _), rfl⟩
  case round =>
    obtain ⟨k, hkn, hg, rfl, HB, HC⟩ := hrel
    by_cases hlt : k < n
    · have hlz : (k : Int) < (n : Int) := by omega
      have hc := fun m => hrow.out (wr.drewN m) (below_drewN HB.out m) k (by rw [HN.out]; exact hlt)
      have hc2 := fun m => hrow2.out (wr.drewN m) (below_drewN HB.out m) k (by rw [← HM.out]; exact hlt)
      have hgo := fun (h : xs[k]! = ys[k]!) => show xs.take (k + 1) = ys.take (k + 1) by rw [take_getA xs k (by rw [HN.out]; exact hlt), take_getA ys k (by rw [← HM.out]; exact hlt), HC.out, h]
      have hno := fun (h : ¬ xs[k]! = ys[k]!) => show res = false from by rw [← HR.out]; exact decide_eq_false (fun e => h (by rw [e]))
      generalize xs[k]! = x at hc hgo hno
      generalize ys[k]! = y at hc2 hgo hno
      have e0 := fun m => (hc m).1; have e1 := fun m => (hc m).2.1; have e2 := fun m => (hc m).2.2
      have f0 := fun m => (hc2 m).1; have f1 := fun m => (hc2 m).2.1; have f2 := fun m => (hc2 m).2.2
      clear hc hc2 hrow hrow2
      by_cases hxy : x = y
      · have hq : eqI ⟨⟨x.t.k, x.t.v⟩, x.n⟩ ⟨⟨y.t.k, y.t.v⟩, y.n⟩ = true := decide_eq_true (by rw [hxy])
        have HG := Lib.hid (hgo hxy)
        clear hgo hno hxy
        go_wp2_with fail
        go_quiet (fail)
        go_wp2
        go_roundg (n - (k + 1))
        case measure => omega
        case rel => exact ⟨k + 1, by omega, by omega, by go_num, below_drewN HB.out _, HG.out⟩
      · have hq : eqI ⟨⟨x.t.k, x.t.v⟩, x.n⟩ ⟨⟨y.t.k, y.t.v⟩, y.n⟩ = false := decide_eq_false (fun e => hxy (by obtain ⟨⟨x0, x1⟩, x2⟩ := x; obtain ⟨⟨y0, y1⟩, y2⟩ := y; exact e))
        have HG := Lib.hid (hno hxy)
        clear hgo hno hxy
        go_wp2_with fail
        go_quiet (fail)
        go_wp2
        go_returns
        exact ⟨ret_bool HG.out.symm, below_drewN HB.out _⟩
    · have hlz : ¬ (k : Int) < (n : Int) := by omega
      have : k = n := by omega
      subst this
      have HX : Hid (res = true) := by
        have h := HC.out
        rw [List.take_of_length_le (by rw [HN.out]; exact Nat.le_refl _), List.take_of_length_le (by rw [← HM.out]; exact Nat.le_refl _)] at h
        show res = true
        rw [← HR.out]
        exact decide_eq_true h
      clear HC hrow hrow2
      go_wp2
      go_returns
      exact ⟨ret_bool HX.out.symm, HB.out⟩
set_option maxHeartbeats 2000000 in
theorem bequal_no (xs ys : List IV) (p q : Option Addr) (cap cap2 : Nat) (w : World) (hlen : xs.length ≠ ys.length) (h1 : xs.length ≤ 900000) (h2 : ys.length ≤ 900000) :
    Calls Try.prog 17 #[.slice p xs.length cap, .slice q ys.length cap2] w (Ret (.bool (decide (xs = ys))) w) := by
  rw [decide_eq_false (fun e => hlen (by rw [e]))]
  generalize xs.length = n at *
  generalize ys.length = m at *
  have hne : ¬ (n : Int) = (m : Int) := by omega
  have hneb : ((n : Int) != (m : Int)) = true := by simpa using hne
  go_enter Try.func17, Try.ntmps17
  go_wp2
  go_returns
  exact ⟨rfl, Below.refl _ _⟩
set_option maxHeartbeats 2000000 in
theorem bequal_nil (p q : Option Addr) (cap cap2 : Nat) (w : World) :
    Calls Try.prog 17 #[.slice p 0 cap, .slice q 0 cap2] w (Ret (.bool (decide (([] : List IV) = []))) w) := by
  rw [decide_eq_true rfl]
  go_enter Try.func17, Try.ntmps17
  go_wp2
  refine wp_loop_rounds 1 ?_
  rw [rounds_succ]
  go_wp2
  go_returns
  exact ⟨rfl, Below.refl _ _⟩
theorem bequal_any (xs ys : List IV) (va vb : Value) (w : World) (h1 : xs.length ≤ 900000) (h2 : ys.length ≤ 900000) (ha : RI.Is w va xs) (hb : RI.Is w vb ys) : Calls Try.prog 17 #[va, vb] w (Ret (.bool (decide (xs = ys))) w) := by
  by_cases hlen : xs.length = ys.length
  · rcases ha with ⟨rfl, p, cap, rfl, _⟩ | ⟨hne, b, off, cap, rfl, hl, hr⟩
    · obtain rfl : ys = [] := List.length_eq_zero_iff.1 hlen.symm
      obtain ⟨q, d, rfl⟩ := hb.slice
      exact bequal_nil p q cap d w
    · rcases hb with ⟨rfl, q, d, rfl, _⟩ | ⟨_, b2, off2, cap2, rfl, hl2, hr2⟩
      · exact absurd (List.length_eq_zero_iff.1 hlen) hne
      · exact bequal_row xs ys b off cap b2 off2 cap2 w h1 hlen hl hr hl2 hr2
  · obtain ⟨p, c, rfl⟩ := ha.slice
    obtain ⟨q, d, rfl⟩ := hb.slice
    exact bequal_no xs ys p q c d w hlen h1 h2
theorem bsame_any (xs ys : List IV) (va vb : Value) (w : World) (h1 : xs.length ≤ 900000) (h2 : ys.length ≤ 900000) (ha : RI.Is w va xs) (hb : RI.Is w vb ys) : Calls Try.prog 11 #[va, vb] w (Ret (.bool (decide (xs = ys))) w) := by
  have H := Lib.hid (bequal_any xs ys va vb w h1 h2 ha hb)
  obtain ⟨p, c, rfl⟩ := ha.slice
  obtain ⟨q, d, rfl⟩ := hb.slice
  generalize decide (xs = ys) = r at *
  clear ha hb
  generalize xs.length = n at *
  generalize ys.length = m at *
  go_enter Try.func11, Try.ntmps11
  go_wp2_with fail
  refine (H.out).mono ?_
  rintro e w1 ⟨rfl, hb1⟩
  go_wp2
  go_returns
  exact ⟨rfl, hb1⟩
end Go.Proofs.Ytbjecaajeokdoaa
