/- two records, two items, two lists of either: the same? -/
import Derived.Test.YthomddbekiknjaaGreatG01
import Derived.Laws.StructEq
import Derived.Test.YthomddbekiknjaaGreatG11
import Derived.Test.YthomddbekiknjaaGreatG05
import Derived.Deep.RegionHeldLaw
namespace Go.Proofs.YthomddbekiknjaaGreat
open Go.RowKit
set_option linter.unusedVariables false
set_option linter.unusedSimpArgs false

def eqR (a b : RV) : Bool := decide (a = b)
def eqI (a b : IV) : Bool := decide (a = b)
theorem eqR_iff (a b : RV) : eqR a b = (decide (a.k = b.k) && decide (a.v = b.v)) := by
  rw [Bool.eq_iff_iff]
  simp only [eqR, decide_eq_true_eq, Bool.and_eq_true]
  constructor
  · intro h; subst h; exact ⟨rfl, rfl⟩
  · rintro ⟨h0, h1⟩; exact RV.ext2 h0 h1
theorem eqI_iff (a b : IV) : eqI a b = (eqR a.t b.t && decide (a.n = b.n)) := by
  rw [Bool.eq_iff_iff]
  simp only [eqI, eqR, decide_eq_true_eq, Bool.and_eq_true]
  constructor
  · intro h; subst h; exact ⟨rfl, rfl⟩
  · rintro ⟨h0, h1⟩; cases a; cases b; simp only at h0 h1; subst h0; subst h1; rfl
set_option maxRecDepth 100000 in
theorem eqRecIn (d : Nat) (a0 a1 b0 b1 : Int) (w : World) : (Op.equalIn (d + 1 + 1) 27 (.agg #[.int .i64 a0, .int .i64 a1]) (.agg #[.int .i64 b0, .int .i64 b1])).run Tryz.prog w = .ok (eqR ⟨a0, a1⟩ ⟨b0, b1⟩) w := by
  have u3 := Tryz.underlying2
  have hS : Tryz.prog.underlying 27 = some (.struct (Tryz.prog.fieldsOf 27)) := by kernel_rfl
  have hp : Tryz.prog.stoodInHeld 27 = false := by kernel_rfl
  rw [run_equalIn_agg w (d + 1) 27 _ _ hS hp]
  simp only [Program.fieldsOf, Tryz.underlying27]
  rw [eqR_iff]
  simp only
  go_simp
  by_cases h0 : a0 = b0 <;> by_cases h1 : a1 = b1 <;> simp [h0, h1, Result.andThen]
set_option maxRecDepth 100000 in
theorem eqRec (a0 a1 b0 b1 : Int) (w : World) : (binOp .eql 27 (.agg #[.int .i64 a0, .int .i64 a1]) (.agg #[.int .i64 b0, .int .i64 b1])).run Tryz.prog w = .ok (.bool (eqR ⟨a0, a1⟩ ⟨b0, b1⟩)) w := by
  rw [run_eql_struct, show (10000 : Nat) = 9998 + 1 + 1 from rfl, eqRecIn]
  rfl
set_option maxRecDepth 100000 in
theorem neRec (a0 a1 b0 b1 : Int) (w : World) : (binOp .neq 27 (.agg #[.int .i64 a0, .int .i64 a1]) (.agg #[.int .i64 b0, .int .i64 b1])).run Tryz.prog w = .ok (.bool (!eqR ⟨a0, a1⟩ ⟨b0, b1⟩)) w := by
  rw [run_neq_struct, show (10000 : Nat) = 9998 + 1 + 1 from rfl, eqRecIn]
  rfl
set_option maxRecDepth 100000 in
theorem eqItemIn (d : Nat) (a0 a1 a2 b0 b1 b2 : Int) (w : World) : (Op.equalIn (d + 1 + 1 + 1) 57 (.agg #[.int .i64 a0, .int .i64 a1, .int .i64 a2]) (.agg #[.int .i64 b0, .int .i64 b1, .int .i64 b2])).run Tryz.prog w = .ok (eqI ⟨⟨a0, a1⟩, a2⟩ ⟨⟨b0, b1⟩, b2⟩) w := by
  have u3 := Tryz.underlying3
  have hS : Tryz.prog.underlying 57 = some (.struct (Tryz.prog.fieldsOf 57)) := by kernel_rfl
  have hp : Tryz.prog.stoodInHeld 57 = false := by kernel_rfl
  have hR := eqRecIn d a0 a1 b0 b1
  rw [run_equalIn_agg w (d + 1 + 1) 57 _ _ hS hp]
  simp only [Program.fieldsOf, Tryz.underlying57]
  rw [eqI_iff]
  simp only
  go_simp
  generalize eqR ⟨a0, a1⟩ ⟨b0, b1⟩ = q at *
  by_cases h2 : a2 = b2 <;> cases q <;> simp [h2, Result.andThen, hR]
set_option maxRecDepth 100000 in
theorem eqItem (a0 a1 a2 b0 b1 b2 : Int) (w : World) : (binOp .eql 57 (.agg #[.int .i64 a0, .int .i64 a1, .int .i64 a2]) (.agg #[.int .i64 b0, .int .i64 b1, .int .i64 b2])).run Tryz.prog w = .ok (.bool (eqI ⟨⟨a0, a1⟩, a2⟩ ⟨⟨b0, b1⟩, b2⟩)) w := by
  rw [run_eql_struct, show (10000 : Nat) = 9997 + 1 + 1 + 1 from rfl, eqItemIn]
  rfl
set_option maxRecDepth 100000 in
theorem neItem (a0 a1 a2 b0 b1 b2 : Int) (w : World) : (binOp .neq 57 (.agg #[.int .i64 a0, .int .i64 a1, .int .i64 a2]) (.agg #[.int .i64 b0, .int .i64 b1, .int .i64 b2])).run Tryz.prog w = .ok (.bool (!eqI ⟨⟨a0, a1⟩, a2⟩ ⟨⟨b0, b1⟩, b2⟩)) w := by
  rw [run_neq_struct, show (10000 : Nat) = 9997 + 1 + 1 + 1 from rfl, eqItemIn]
  rfl
attribute [local go_sem ↓] eqRec neRec eqItem neItem

set_option maxRecDepth 100000 in
set_option maxHeartbeats 4000000 in
theorem bequal_row (xs ys : List IV) (b off cap b2 off2 cap2 : Nat) (w : World) (hl : xs.length ≤ 900000) (hlen : xs.length = ys.length) (hb : b < w.heap.size) (hr : RI.Row w b off xs) (hb2 : b2 < w.heap.size) (hr2 : RI.Row w b2 off2 ys) :
    Calls Tryz.prog 47 #[.slice (some ⟨b, off, none⟩) xs.length cap, .slice (some ⟨b2, off2, none⟩) ys.length cap2] w (Ret (.bool (decide (xs = ys))) w) := by
  have hrow : Hid (∀ (W : World), Below w.heap.size w W → ∀ j, j < xs.length → _) := fun W hW j hj => atI (hr.below hW hb) j hj
  have hrow2 : Hid (∀ (W : World), Below w.heap.size w W → ∀ j, j < ys.length → _) := fun W hW j hj => atI (hr2.below hW hb2) j hj
  clear hr hr2
  rw [← hlen]
  generalize hn : xs.length = n at hl hlen
  have HN := Lib.hid hn
  have HM := Lib.hid hlen
  clear hn hlen
  generalize hres : decide (xs = ys) = res
  have HR := Lib.hid hres
  clear hres
  go_enter Tryz.func47, Tryz.ntmps47
  go_wp2
  go_loopg [13] n (fun gg i wr => ∃ k : Nat, k ≤ n ∧ n - k ≤ gg ∧ i = .int .i64 k ∧ Hid (Below w.heap.size w wr) ∧ Hid (xs.take k = ys.take k))
  case atStart => exact ⟨0, Nat.zero_le _, by omega, rfl, (Below.refl _ _), rfl⟩
  case round =>
    obtain ⟨k, hkn, hg, rfl, HB, HC⟩ := hrel
    by_cases hlt : k < n
    · have hlz : (k : Int) < (n : Int) := by omega
      have hc := fun m => hrow.out (wr.drewN m) (below_drewN HB.out m) k (by rw [HN.out]; exact hlt)
      have hc2 := fun m => hrow2.out (wr.drewN m) (below_drewN HB.out m) k (by rw [← HM.out]; exact hlt)
      have hgo := fun (h : xs[k]! = ys[k]!) => show xs.take (k + 1) = ys.take (k + 1) by rw [take_getA xs k (by rw [HN.out]; exact hlt), take_getA ys k (by rw [← HM.out]; exact hlt), HC.out, h]
      have hno := fun (h : ¬ xs[k]! = ys[k]!) => show res = false from by rw [← HR.out]; exact decide_eq_false (fun e => h (by rw [e]))
      generalize xs[k]! = x at hc hgo hno
      generalize ys[k]! = y at hc2 hgo hno
      have e0 := fun m => (hc m).1; have e1 := fun m => (hc m).2.1; have e2 := fun m => (hc m).2.2
      have f0 := fun m => (hc2 m).1; have f1 := fun m => (hc2 m).2.1; have f2 := fun m => (hc2 m).2.2
      clear hc hc2 hrow hrow2
      by_cases hxy : x = y
      · have hq : eqI ⟨⟨x.t.k, x.t.v⟩, x.n⟩ ⟨⟨y.t.k, y.t.v⟩, y.n⟩ = true := decide_eq_true (by rw [hxy])
        have HG := Lib.hid (hgo hxy)
        clear hgo hno hxy
        go_wp2_with fail
        go_quiet (fail)
        go_wp2
        go_roundg (n - (k + 1))
        case measure => omega
        case rel => exact ⟨k + 1, by omega, by omega, by go_num, below_drewN HB.out _, HG.out⟩
      · have hq : eqI ⟨⟨x.t.k, x.t.v⟩, x.n⟩ ⟨⟨y.t.k, y.t.v⟩, y.n⟩ = false := decide_eq_false (fun e => hxy (by obtain ⟨⟨x0, x1⟩, x2⟩ := x; obtain ⟨⟨y0, y1⟩, y2⟩ := y; exact e))
        have HG := Lib.hid (hno hxy)
        clear hgo hno hxy
        go_wp2_with fail
        go_quiet (fail)
        go_wp2
        go_returns
        exact ⟨ret_bool HG.out.symm, below_drewN HB.out _⟩
    · have hlz : ¬ (k : Int) < (n : Int) := by omega
      have : k = n := by omega
      subst this
      have HX : Hid (res = true) := by
        have h := HC.out
        rw [List.take_of_length_le (by rw [HN.out]; exact Nat.le_refl _), List.take_of_length_le (by rw [← HM.out]; exact Nat.le_refl _)] at h
        show res = true
        rw [← HR.out]
        exact decide_eq_true h
      clear HC hrow hrow2
      go_wp2
      go_returns
      exact ⟨ret_bool HX.out.symm, HB.out⟩
set_option maxHeartbeats 2000000 in
theorem bequal_no (xs ys : List IV) (p q : Option Addr) (cap cap2 : Nat) (w : World) (hlen : xs.length ≠ ys.length) (h1 : xs.length ≤ 900000) (h2 : ys.length ≤ 900000) :
    Calls Tryz.prog 47 #[.slice p xs.length cap, .slice q ys.length cap2] w (Ret (.bool (decide (xs = ys))) w) := by
  rw [decide_eq_false (fun e => hlen (by rw [e]))]
  generalize xs.length = n at *
  generalize ys.length = m at *
  have hne : ¬ (n : Int) = (m : Int) := by omega
  have hneb : ((n : Int) != (m : Int)) = true := by simpa using hne
  go_enter Tryz.func47, Tryz.ntmps47
  go_wp2
  go_returns
  exact ⟨rfl, Below.refl _ _⟩
set_option maxHeartbeats 2000000 in
theorem bequal_nil (p q : Option Addr) (cap cap2 : Nat) (w : World) :
    Calls Tryz.prog 47 #[.slice p 0 cap, .slice q 0 cap2] w (Ret (.bool (decide (([] : List IV) = []))) w) := by
  rw [decide_eq_true rfl]
  go_enter Tryz.func47, Tryz.ntmps47
  go_wp2
  refine wp_loop_rounds 1 ?_
  rw [rounds_succ]
  go_wp2
  go_returns
  exact ⟨rfl, Below.refl _ _⟩
theorem bequal_any (xs ys : List IV) (va vb : Value) (w : World) (h1 : xs.length ≤ 900000) (h2 : ys.length ≤ 900000) (ha : RI.Is w va xs) (hb : RI.Is w vb ys) : Calls Tryz.prog 47 #[va, vb] w (Ret (.bool (decide (xs = ys))) w) := by
  by_cases hlen : xs.length = ys.length
  · rcases ha with ⟨rfl, p, cap, rfl, _⟩ | ⟨hne, b, off, cap, rfl, hl, hr⟩
    · obtain rfl : ys = [] := List.length_eq_zero_iff.1 hlen.symm
      obtain ⟨q, d, rfl⟩ := hb.slice
      exact bequal_nil p q cap d w
    · rcases hb with ⟨rfl, q, d, rfl, _⟩ | ⟨_, b2, off2, cap2, rfl, hl2, hr2⟩
      · exact absurd (List.length_eq_zero_iff.1 hlen) hne
      · exact bequal_row xs ys b off cap b2 off2 cap2 w h1 hlen hl hr hl2 hr2
  · obtain ⟨p, c, rfl⟩ := ha.slice
    obtain ⟨q, d, rfl⟩ := hb.slice
    exact bequal_no xs ys p q c d w hlen h1 h2
theorem bsame_any (xs ys : List IV) (va vb : Value) (w : World) (h1 : xs.length ≤ 900000) (h2 : ys.length ≤ 900000) (ha : RI.Is w va xs) (hb : RI.Is w vb ys) : Calls Tryz.prog 23 #[va, vb] w (Ret (.bool (decide (xs = ys))) w) := by
  have H := Lib.hid (bequal_any xs ys va vb w h1 h2 ha hb)
  obtain ⟨p, c, rfl⟩ := ha.slice
  obtain ⟨q, d, rfl⟩ := hb.slice
  generalize decide (xs = ys) = r at *
  clear ha hb
  generalize xs.length = n at *
  generalize ys.length = m at *
  go_enter Tryz.func23, Tryz.ntmps23
  go_wp2_with fail
  refine (H.out).mono ?_
  rintro e w1 ⟨rfl, hb1⟩
  go_wp2
  go_returns
  exact ⟨rfl, hb1⟩
end Go.Proofs.YthomddbekiknjaaGreat
/- the document's: two lists of items, of records, the same? -/
namespace Go.Proofs.YthomddbekiknjaaGreat
open Go.RowKit
set_option linter.unusedVariables false
set_option linter.unusedSimpArgs false
attribute [local go_sem ↓] eqRec neRec eqItem neItem

set_option maxRecDepth 100000 in
set_option maxHeartbeats 4000000 in
theorem rsame_row (xs ys : List IV) (b off cap b2 off2 cap2 : Nat) (w : World) (hl : xs.length ≤ 900000) (hlen : xs.length = ys.length) (hb : b < w.heap.size) (hr : RI.Row w b off xs) (hb2 : b2 < w.heap.size) (hr2 : RI.Row w b2 off2 ys) :
    Calls Tryz.prog 26 #[.slice (some ⟨b, off, none⟩) xs.length cap, .slice (some ⟨b2, off2, none⟩) ys.length cap2] w (Ret (.bool (decide (xs = ys))) w) := by
  have hrow : Hid (∀ (W : World), Below w.heap.size w W → ∀ j, j < xs.length → _) := fun W hW j hj => atI (hr.below hW hb) j hj
  have hrow2 : Hid (∀ (W : World), Below w.heap.size w W → ∀ j, j < ys.length → _) := fun W hW j hj => atI (hr2.below hW hb2) j hj
  clear hr hr2
  rw [← hlen]
  generalize hn : xs.length = n at hl hlen
  have HN := Lib.hid hn
  have HM := Lib.hid hlen
  clear hn hlen
  generalize hres : decide (xs = ys) = res
  have HR := Lib.hid hres
  clear hres
  go_enter Tryz.func26, Tryz.ntmps26
  go_wp2
  go_loopg [5] n (fun gg i wr => ∃ k : Nat, k ≤ n ∧ n - k ≤ gg ∧ i = .int .i64 k ∧ Hid (Below w.heap.size w wr) ∧ Hid (xs.take k = ys.take k))
  case atStart => exact ⟨0, Nat.zero_le _, by omega, rfl, (Below.refl _ _), rfl⟩
  case round =>
    obtain ⟨k, hkn, hg, rfl, HB, HC⟩ := hrel
    by_cases hlt : k < n
    · have hlz : (k : Int) < (n : Int) := by omega
      have hc := fun m => hrow.out (wr.drewN m) (below_drewN HB.out m) k (by rw [HN.out]; exact hlt)
      have hc2 := fun m => hrow2.out (wr.drewN m) (below_drewN HB.out m) k (by rw [← HM.out]; exact hlt)
      have hgo := fun (h : xs[k]! = ys[k]!) => show xs.take (k + 1) = ys.take (k + 1) by rw [take_getA xs k (by rw [HN.out]; exact hlt), take_getA ys k (by rw [← HM.out]; exact hlt), HC.out, h]
      have hno := fun (h : ¬ xs[k]! = ys[k]!) => show res = false from by rw [← HR.out]; exact decide_eq_false (fun e => h (by rw [e]))
      generalize xs[k]! = x at hc hgo hno
      generalize ys[k]! = y at hc2 hgo hno
      have e0 := fun m => (hc m).1; have e1 := fun m => (hc m).2.1; have e2 := fun m => (hc m).2.2
      have f0 := fun m => (hc2 m).1; have f1 := fun m => (hc2 m).2.1; have f2 := fun m => (hc2 m).2.2
      clear hc hc2 hrow hrow2
      by_cases hxy : x = y
      · have hq : eqI ⟨⟨x.t.k, x.t.v⟩, x.n⟩ ⟨⟨y.t.k, y.t.v⟩, y.n⟩ = true := decide_eq_true (by rw [hxy])
        have HG := Lib.hid (hgo hxy)
        clear hgo hno hxy
        go_wp2_with fail
        go_quiet (fail)
        go_wp2
        go_roundg (n - (k + 1))
        case measure => omega
        case rel => exact ⟨k + 1, by omega, by omega, by go_num, below_drewN HB.out _, HG.out⟩
      · have hq : eqI ⟨⟨x.t.k, x.t.v⟩, x.n⟩ ⟨⟨y.t.k, y.t.v⟩, y.n⟩ = false := decide_eq_false (fun e => hxy (by obtain ⟨⟨x0, x1⟩, x2⟩ := x; obtain ⟨⟨y0, y1⟩, y2⟩ := y; exact e))
        have HG := Lib.hid (hno hxy)
        clear hgo hno hxy
        go_wp2_with fail
        go_quiet (fail)
        go_wp2
        go_returns
        exact ⟨ret_bool HG.out.symm, below_drewN HB.out _⟩
    · have hlz : ¬ (k : Int) < (n : Int) := by omega
      have : k = n := by omega
      subst this
      have HX : Hid (res = true) := by
        have h := HC.out
        rw [List.take_of_length_le (by rw [HN.out]; exact Nat.le_refl _), List.take_of_length_le (by rw [← HM.out]; exact Nat.le_refl _)] at h
        show res = true
        rw [← HR.out]
        exact decide_eq_true h
      clear HC hrow hrow2
      go_wp2
      go_returns
      exact ⟨ret_bool HX.out.symm, HB.out⟩
set_option maxHeartbeats 2000000 in
theorem rsame_no (xs ys : List IV) (p q : Option Addr) (cap cap2 : Nat) (w : World) (hlen : xs.length ≠ ys.length) (h1 : xs.length ≤ 900000) (h2 : ys.length ≤ 900000) :
    Calls Tryz.prog 26 #[.slice p xs.length cap, .slice q ys.length cap2] w (Ret (.bool (decide (xs = ys))) w) := by
  rw [decide_eq_false (fun e => hlen (by rw [e]))]
  generalize xs.length = n at *
  generalize ys.length = m at *
  have hne : ¬ (n : Int) = (m : Int) := by omega
  have hneb : ((n : Int) != (m : Int)) = true := by simpa using hne
  go_enter Tryz.func26, Tryz.ntmps26
  go_wp2
  go_returns
  exact ⟨rfl, Below.refl _ _⟩
set_option maxHeartbeats 2000000 in
theorem rsame_nil (p q : Option Addr) (cap cap2 : Nat) (w : World) :
    Calls Tryz.prog 26 #[.slice p 0 cap, .slice q 0 cap2] w (Ret (.bool (decide (([] : List IV) = []))) w) := by
  rw [decide_eq_true rfl]
  go_enter Tryz.func26, Tryz.ntmps26
  go_wp2
  refine wp_loop_rounds 1 ?_
  rw [rounds_succ]
  go_wp2
  go_returns
  exact ⟨rfl, Below.refl _ _⟩
theorem rsame_any (xs ys : List IV) (va vb : Value) (w : World) (h1 : xs.length ≤ 900000) (h2 : ys.length ≤ 900000) (ha : RI.Is w va xs) (hb : RI.Is w vb ys) : Calls Tryz.prog 26 #[va, vb] w (Ret (.bool (decide (xs = ys))) w) := by
  by_cases hlen : xs.length = ys.length
  · rcases ha with ⟨rfl, p, cap, rfl, _⟩ | ⟨hne, b, off, cap, rfl, hl, hr⟩
    · obtain rfl : ys = [] := List.length_eq_zero_iff.1 hlen.symm
      obtain ⟨q, d, rfl⟩ := hb.slice
      exact rsame_nil p q cap d w
    · rcases hb with ⟨rfl, q, d, rfl, _⟩ | ⟨_, b2, off2, cap2, rfl, hl2, hr2⟩
      · exact absurd (List.length_eq_zero_iff.1 hlen) hne
      · exact rsame_row xs ys b off cap b2 off2 cap2 w h1 hlen hl hr hl2 hr2
  · obtain ⟨p, c, rfl⟩ := ha.slice
    obtain ⟨q, d, rfl⟩ := hb.slice
    exact rsame_no xs ys p q c d w hlen h1 h2

end Go.Proofs.YthomddbekiknjaaGreat
/- the fixed answer of the laws on programs; the law ProgRight: over what the program's own Run and Right answer (ProgC) -/
namespace Go.Proofs.YthomddbekiknjaaGreat
open Go.RowKit
set_option linter.unusedVariables false
set_option linter.unusedSimpArgs false
attribute [local go_sem ↓] run_imin
attribute [local go_sem ↓] eqRec neRec

/-- the program's own two functions answer so -/
structure ProgC : Prop where
  run : ∀ (p : List NV) (v : Value) (rk rv : Int) (w : World), p.length ≤ 1000 → RC.Is w v p → (∀ x ∈ p, inR x.n) → inR rk → inR rv → Calls Tryz.prog 96 #[v, .agg #[.int .i64 rk, .int .i64 rv]] w (RunR p ⟨rk, rv⟩ w)
  right : ∀ (p : List NV) (v : Value) (w : World), p.length ≤ 1000 → RC.Is w v p → Calls Tryz.prog 114 #[v] w (Ret (.bool (rightC p)) w)
theorem atR7 {w : World} {b off : Nat} {xs : List RV} (h : RR.Row w b off xs) (j : Nat) (hj : j < xs.length) :
    w.cell? ⟨b, off + j * 2, none⟩ = some (.int .i64 xs[j]!.k) ∧ w.cell? ⟨b, off + j * 2 + 1, none⟩ = some (.int .i64 xs[j]!.v) :=
  ⟨h j hj 0 _ rfl, h j hj 1 _ rfl⟩
def progAw : List NV := [⟨2, 0⟩, ⟨3, 0⟩, ⟨1, 1⟩, ⟨4, 0⟩, ⟨16, 0⟩]
theorem progAw_is : runC progAw ⟨3, 4⟩ = ([⟨3, 5⟩], 0) := by decide +kernel
end Go.Proofs.YthomddbekiknjaaGreat
/- the program's own Run and Right answer as the document's: progC -/
namespace Go.Proofs.YthomddbekiknjaaGreat
open Go.RowKit
set_option linter.unusedVariables false
set_option linter.unusedSimpArgs false

theorem machInit {rk rv : Int} (w : World) : Mach w.heap.size w.heap.size rk rv (w.alloc (.cells #[.int .i64 rk, .int .i64 rv, .int .i64 0, .slice none 0 0, .slice none 0 0] 145)) 0 (.slice none 0 0) (.slice none 0 0) [] [] :=
  ⟨heap_alloc_new w _, Nat.le_refl _, RowKind.Own.nil R6 _ _, RowKind.Own.nil RR _ _⟩
set_option maxRecDepth 100000 in
set_option maxHeartbeats 8000000 in
theorem pRun_row (p : List NV) (rk rv : Int) (b off cap : Nat) (w : World) (hl : p.length ≤ 900000) (h0 : p ≠ []) (hb : b < w.heap.size) (hr : RC.Row w b off p) (hpn : ∀ x ∈ p, inR x.n) (hrk : inR rk) (hrv : inR rv) :
    Calls Tryz.prog 96 #[.slice (some ⟨b, off, none⟩) p.length cap, .agg #[.int .i64 rk, .int .i64 rv]] w (RunR p ⟨rk, rv⟩ w) := by
  have hbox := Below.alloc (Below.refl w.heap.size w) (Nat.le_refl _) (.cells #[.int .i64 rk, .int .i64 rv] 27)
  have HRT := Lib.hid (fun W (hW : Below w.heap.size w W) => pright_any p (.slice (some ⟨b, off, none⟩) p.length cap) W hl (.inr ⟨h0, b, off, cap, rfl, Nat.lt_of_lt_of_le hb hW.size, hr.below hW hb⟩))
  have hno : rightC p = false → runC p ⟨rk, rv⟩ = ([], 0) := fun h => by unfold runC; rw [h]; rfl
  have hyes : rightC p = true → runP p ⟨rk, rv⟩ 256 [] [] 0 = runC p ⟨rk, rv⟩ := fun h => by unfold runC; rw [h]; rfl
  have hall : rightC p = true → ∀ j, j < p.length → NV.ok p.length p[j]! := fun h j hj => by
    unfold rightC at h
    rw [Bool.and_eq_true, List.all_eq_true] at h
    have := h.1 p[j]! (by rw [getElem!_pos p j hj]; exact List.getElem_mem hj)
    exact of_decide_eq_true this
  have h64 : rightC p = true → p.length ≤ 64 := fun h => by
    unfold rightC at h
    rw [Bool.and_eq_true] at h
    exact of_decide_eq_true h.2
  have hpn2 : ∀ j, j < p.length → inR p[j]!.n := fun j hj => hpn p[j]! (by rw [getElem!_pos p j hj]; exact List.getElem_mem hj)
  have hrun : rightC p = true → ∀ (W0 : World), Below w.heap.size w W0 → w.heap.size ≤ W0.heap.size → Calls Tryz.prog 115 #[.pointer (some ⟨W0.heap.size, 0, none⟩), .slice (some ⟨b, off, none⟩) p.length cap] (W0.alloc (.cells #[.int .i64 rk, .int .i64 rv, .int .i64 0, .slice none 0 0, .slice none 0 0] 145)) (fun e w' => e = .returned (.int .i64 (runC p ⟨rk, rv⟩).2) ∧ Below W0.heap.size (W0.alloc (.cells #[.int .i64 rk, .int .i64 rv, .int .i64 0, .slice none 0 0, .slice none 0 0] 145)) w' ∧ ((runC p ⟨rk, rv⟩).2 = 0 → ∃ pc sv' ov' S, Mach W0.heap.size W0.heap.size rk rv w' pc sv' ov' S (runC p ⟨rk, rv⟩).1)) := fun h W0 hW hz => by
    rw [← hyes h]
    exact prun_any p b off cap (machInit W0) (h64 h) (Nat.lt_of_lt_of_le hb hz) ((hr.below hW hb).below (Below.alloc (Below.refl W0.heap.size W0) (Nat.le_refl _) _) (Nat.lt_of_lt_of_le hb hz)) (hall h) hpn2 hrk hrv
  have herr : rightC p = true → (runC p ⟨rk, rv⟩).2 ≠ 0 → runC p ⟨rk, rv⟩ = errL ⟨rk, rv⟩ (runC p ⟨rk, rv⟩).2 := fun h => by
    rw [← hyes h]
    exact runP_err p ⟨rk, rv⟩ 256 [] [] 0
  have hrange : rightC p = true → 0 ≤ (runC p ⟨rk, rv⟩).2 ∧ (runC p ⟨rk, rv⟩).2 ≤ 5 := fun _ => by
    rcases runC_ends p ⟨rk, rv⟩ with ⟨h, _⟩ | ⟨_, e, h1, h2, h3⟩
    · rw [h]; exact ⟨by decide, by decide⟩
    · rw [h3]; exact ⟨by show 0 ≤ e; omega, h2⟩
  unfold RunR
  generalize runC p ⟨rk, rv⟩ = res at *
  generalize rightC p = ok at *
  obtain ⟨rp, re⟩ := res
  simp only at hrun herr hrange
  have HB0 := Lib.hid hbox; have HNo := Lib.hid hno; have HErr := Lib.hid herr; have HRun := Lib.hid hrun; have HRange := Lib.hid hrange
  have HRb : Hid (rowOf (w.alloc (.cells #[.int .i64 rk, .int .i64 rv] 27)) w.heap.size = some #[.int .i64 rk, .int .i64 rv]) := rowOf_alloc_at _ _ _ rfl
  clear hr hbox hno hyes hall hpn hpn2 h0 h64 hrun herr hrange
  generalize p.length = n at *
  go_enter Tryz.func96, Tryz.ntmps96
  go_wp2_with fail
  refine (HRT.out _ HB0.out).mono ?_
  rintro e w1 ⟨rfl, hb1⟩
  have HB1 := Lib.hid (HB0.out.trans (hb1.mono HB0.out.size))
  have HRb1 := Lib.hid (rowOf_below HRb.out hb1 (by first | (simp; done) | (simp; omega)))
  have hz1 : w.heap.size < w1.heap.size := rowOf_lt HRb1.out
  clear hb1 HRT HRb HB0
  cases ok
  · have hres := HNo.out rfl
    obtain ⟨q1, q2⟩ := Prod.mk.inj hres
    subst q1
    subst q2
    clear HNo HErr HRun HRange hres
    go_wp2
    go_returns
    exact ⟨_, rfl, RowKind.Own.nil RR _ _, HB1.out⟩
  have HErr2 := Lib.hid (HErr.out rfl); have HRun2 := Lib.hid (HRun.out rfl w1 HB1.out HB1.out.size)
  obtain ⟨hr0, hr5⟩ := HRange.out rfl
  clear HNo HErr HRun HRange
  have r0 : w1.cell? ⟨w.heap.size, 0, none⟩ = some (.int .i64 rk) := rowOf_cell HRb1.out 0
  have r1 : w1.cell? ⟨w.heap.size, 1, none⟩ = some (.int .i64 rv) := rowOf_cell HRb1.out 1
  go_wp2_with fail
  refine (HRun2.out).mono ?_
  rintro e w2 ⟨rfl, hb2, hM2⟩
  have HB2 := Lib.hid ((HB1.out.alloc HB1.out.size (.cells #[.int .i64 rk, .int .i64 rv, .int .i64 0, .slice none 0 0, .slice none 0 0] 145)).trans (hb2.mono (Nat.le_of_lt hz1)))
  have HRb2 := Lib.hid (rowOf_below (row_old (o := .cells #[.int .i64 rk, .int .i64 rv, .int .i64 0, .slice none 0 0, .slice none 0 0] 145) HRb1.out) hb2 hz1)
  have HM2 := Lib.hid hM2
  clear hb2 hM2 HRun2 HRb1 r0 r1
  by_cases he : re = 0
  · subst he
    obtain ⟨pc, sv', ov', S, hM⟩ := HM2.out rfl
    have HM := Lib.hid hM
    have c4 : w2.cell? ⟨w1.heap.size, 4, none⟩ = some ov' := rowOf_cell hM.row 4
    have HOw := Lib.hid (hM.out.mono (Nat.le_of_lt hz1))
    clear hM HM2 HErr2
    go_wp2
    go_returns
    exact ⟨_, rfl, HOw.out, HB2.out⟩
  · have heb : (re == 0) = false := by simpa using he
    have hen : (re != 0) = true := by simpa using he
    have hq := HErr2.out he
    obtain ⟨q1, _⟩ := Prod.mk.inj hq
    subst q1
    have k0 : w2.cell? ⟨w.heap.size, 0, none⟩ = some (.int .i64 rk) := rowOf_cell HRb2.out 0
    have HOw : Hid (RR.Own w.heap.size (w2.alloc (.cells #[.int .i64 rk, .int .i64 (-9223372036854775808 + re)] 27)) (.slice (some ⟨w2.heap.size, 0, none⟩) 1 1) [⟨rk, -9223372036854775808 + re⟩]) := World.ownsRow_lit w2 _ 1 HB2.out.size (by unfold maxLen; omega) rfl
    clear HErr2 HM2 hq he
    go_wp2
    all_goals go_returns
    all_goals exact ⟨_, rfl, HOw.out, HB2.out.alloc HB2.out.size _⟩
set_option maxRecDepth 100000 in
set_option maxHeartbeats 4000000 in
theorem pRun_nil (q : Option Addr) (cap : Nat) (rk rv : Int) (w : World) : Calls Tryz.prog 96 #[.slice q 0 cap, .agg #[.int .i64 rk, .int .i64 rv]] w (RunR [] ⟨rk, rv⟩ w) := by
  have hres : runC [] ⟨rk, rv⟩ = ([], 0) := rfl
  unfold RunR
  rw [hres]
  have hbox := Below.alloc (Below.refl w.heap.size w) (Nat.le_refl _) (.cells #[.int .i64 rk, .int .i64 rv] 27)
  have HRT : Hid (∀ W, Calls Tryz.prog 114 #[.slice q 0 cap] W (Ret (.bool true) W)) := fun W => pright_nil q cap W
  have HB0 := Lib.hid hbox
  have HRb : Hid (rowOf (w.alloc (.cells #[.int .i64 rk, .int .i64 rv] 27)) w.heap.size = some #[.int .i64 rk, .int .i64 rv]) := rowOf_alloc_at _ _ _ rfl
  clear hbox hres
  go_enter Tryz.func96, Tryz.ntmps96
  go_wp2_with fail
  refine (HRT.out _).mono ?_
  rintro e w1 ⟨rfl, hb1⟩
  have HB1 := Lib.hid (HB0.out.trans (hb1.mono HB0.out.size))
  have HRb1 := Lib.hid (rowOf_below HRb.out hb1 (by first | (simp; done) | (simp; omega)))
  have hz1 : w.heap.size < w1.heap.size := rowOf_lt HRb1.out
  clear hb1 HRT HRb HB0
  have r0 : w1.cell? ⟨w.heap.size, 0, none⟩ = some (.int .i64 rk) := rowOf_cell HRb1.out 0
  have r1 : w1.cell? ⟨w.heap.size, 1, none⟩ = some (.int .i64 rv) := rowOf_cell HRb1.out 1
  have HRun := Lib.hid (prun_nil (machInit (rk := rk) (rv := rv) w1) q cap)
  go_wp2_with fail
  refine (HRun.out).mono ?_
  rintro e w2 ⟨rfl, hb2, pc, sv', ov', S, hM⟩
  have HB2 := Lib.hid ((HB1.out.alloc HB1.out.size (.cells #[.int .i64 rk, .int .i64 rv, .int .i64 0, .slice none 0 0, .slice none 0 0] 145)).trans (hb2.mono (Nat.le_of_lt hz1)))
  have c4 : w2.cell? ⟨w1.heap.size, 4, none⟩ = some ov' := rowOf_cell hM.row 4
  have HOw := Lib.hid (hM.out.mono (Nat.le_of_lt hz1))
  clear hM hb2 HRun HRb1 r0 r1
  go_wp2
  go_returns
  exact ⟨_, rfl, HOw.out, HB2.out⟩
theorem pRun_any (p : List NV) (v : Value) (rk rv : Int) (w : World) (hl : p.length ≤ 900000) (h : RC.Is w v p) (hpn : ∀ x ∈ p, inR x.n) (hrk : inR rk) (hrv : inR rv) :
    Calls Tryz.prog 96 #[v, .agg #[.int .i64 rk, .int .i64 rv]] w (RunR p ⟨rk, rv⟩ w) := by
  rcases h with ⟨rfl, q, cap, rfl, _⟩ | ⟨h0, b, off, cap, rfl, hb, hr⟩
  · exact pRun_nil q cap rk rv w
  · exact pRun_row p rk rv b off cap w hl h0 hb hr hpn hrk hrv
theorem progC : ProgC :=
  ⟨fun p v rk rv w hl h hpn hrk hrv => pRun_any p v rk rv w (by omega) h hpn hrk hrv, fun p v w hl h => pright_any p v w (by omega) h⟩
end Go.Proofs.YthomddbekiknjaaGreat
