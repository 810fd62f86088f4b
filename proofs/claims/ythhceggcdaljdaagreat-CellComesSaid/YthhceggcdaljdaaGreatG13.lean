import Derived.Test.YthhceggcdaljdaaGreatG08
import Derived.Deep.LoopGhost
import Derived.Deep.Draws
import Derived.Deep.Light
import Derived.Laws.StructEq
import Derived.BigQuiet
import Derived.Test.YthhceggcdaljdaaGreatG12
namespace Go.Proofs.YthhceggcdaljdaaGreat
open Go.RowKit
set_option linter.unusedVariables false
set_option linter.unusedSimpArgs false

/- two timestamps, two rows of timestamps: the same? -/
def eqT (a b : TV) : Bool := decide (a = b)
theorem eqT_iff (a b : TV) : eqT a b = (decide (a.d = b.d) && (decide (a.c0 = b.c0) && (decide (a.c1 = b.c1) && (decide (a.c2 = b.c2) && decide (a.c3 = b.c3))))) := by
  rw [Bool.eq_iff_iff]
  simp only [eqT, decide_eq_true_eq, Bool.and_eq_true]
  constructor
  · intro h; subst h; exact ⟨rfl, rfl, rfl, rfl, rfl⟩
  · rintro ⟨h0, h1, h2, h3, h4⟩; exact TV.ext4 h0 h1 h2 h3 h4

theorem eqArr4 (d : Nat) (a0 a1 a2 a3 b0 b1 b2 b3 : Int) (w : World) :
    (Op.equalIn (d + 1 + 1) 23 (.agg #[.int .i64 a0, .int .i64 a1, .int .i64 a2, .int .i64 a3]) (.agg #[.int .i64 b0, .int .i64 b1, .int .i64 b2, .int .i64 b3])).run Tryz.prog w
      = .ok (a0 == b0 && (a1 == b1 && (a2 == b2 && a3 == b3))) w := by
  have hp : ∀ (x0 x1 x2 x3 : Value) (w : World), (part 3 #[x0, x1, x2, x3] 0).run Tryz.prog w = .ok x0 w ∧ (part 3 #[x0, x1, x2, x3] 1).run Tryz.prog w = .ok x1 w ∧ (part 3 #[x0, x1, x2, x3] 2).run Tryz.prog w = .ok x2 w ∧ (part 3 #[x0, x1, x2, x3] 3).run Tryz.prog w = .ok x3 w := fun _ _ _ _ _ => ⟨by kernel_rfl, by kernel_rfl, by kernel_rfl, by kernel_rfl⟩
  have hs : ∀ w, (sizeOf 3).run Tryz.prog w = .ok 1 w := fun _ => by kernel_rfl
  have he : ∀ (a b : Int) (w : World), (Op.equalIn (d + 1) 3 (.int .i64 a) (.int .i64 b)).run Tryz.prog w = .ok (a == b) w := fun a b w => run_equalIn_int w d _ .i64 .i64 a b Tryz.underlying3
  rw [Op.equalIn]
  simp [run_underlying Tryz.underlying23, hs, Std.Legacy.Range.forIn_eq_forIn_range', Std.Legacy.Range.size, List.range', hp, he]
  by_cases h0 : a0 = b0 <;> by_cases h1 : a1 = b1 <;> by_cases h2 : a2 = b2 <;> by_cases h3 : a3 = b3 <;> simp [h0, h1, h2, h3, hp, he]
attribute [local go_sem] eqArr4
set_option maxRecDepth 100000 in
theorem eqTime (a0 a1 a2 a3 a4 b0 b1 b2 b3 b4 : Int) (w : World) : (binOp .eql 25 (.agg #[.int .i64 a0, .int .i64 a1, .int .i64 a2, .int .i64 a3, .int .i64 a4]) (.agg #[.int .i64 b0, .int .i64 b1, .int .i64 b2, .int .i64 b3, .int .i64 b4])).run Tryz.prog w = .ok (.bool (eqT ⟨a0, a1, a2, a3, a4⟩ ⟨b0, b1, b2, b3, b4⟩)) w := by
  have u3 := Tryz.underlying3
  have u22 := Tryz.underlying23
  have hS : Tryz.prog.underlying 25 = some (.struct (Tryz.prog.fieldsOf 25)) := by kernel_rfl
  have hp : Tryz.prog.stoodInHeld 25 = false := by kernel_rfl
  rw [run_eql_struct, show (10000 : Nat) = 9999 + 1 from rfl, run_equalIn_agg w 9999 25 _ _ hS hp]
  simp only [Program.fieldsOf, Tryz.underlying25]
  rw [eqT_iff]
  simp only
  go_simp
  by_cases h0 : a0 = b0 <;> by_cases h1 : a1 = b1 <;> by_cases h2 : a2 = b2 <;> by_cases h3 : a3 = b3 <;> by_cases h4 : a4 = b4 <;> simp [h0, h1, h2, h3, h4, Result.andThen]
set_option maxRecDepth 100000 in
theorem neTime (a0 a1 a2 a3 a4 b0 b1 b2 b3 b4 : Int) (w : World) : (binOp .neq 25 (.agg #[.int .i64 a0, .int .i64 a1, .int .i64 a2, .int .i64 a3, .int .i64 a4]) (.agg #[.int .i64 b0, .int .i64 b1, .int .i64 b2, .int .i64 b3, .int .i64 b4])).run Tryz.prog w = .ok (.bool (!eqT ⟨a0, a1, a2, a3, a4⟩ ⟨b0, b1, b2, b3, b4⟩)) w := by
  have u3 := Tryz.underlying3
  have u22 := Tryz.underlying23
  have hS : Tryz.prog.underlying 25 = some (.struct (Tryz.prog.fieldsOf 25)) := by kernel_rfl
  have hp : Tryz.prog.stoodInHeld 25 = false := by kernel_rfl
  rw [run_neq_struct, show (10000 : Nat) = 9999 + 1 from rfl, run_equalIn_agg w 9999 25 _ _ hS hp]
  simp only [Program.fieldsOf, Tryz.underlying25]
  rw [eqT_iff]
  simp only
  go_simp
  by_cases h0 : a0 = b0 <;> by_cases h1 : a1 = b1 <;> by_cases h2 : a2 = b2 <;> by_cases h3 : a3 = b3 <;> by_cases h4 : a4 = b4 <;> simp [h0, h1, h2, h3, h4, Result.andThen]
attribute [local go_sem ↓] eqTime neTime

set_option maxRecDepth 100000 in
set_option maxHeartbeats 4000000 in
theorem same_row (xs ys : List TV) (b off cap b2 off2 cap2 : Nat) (w : World) (hl : xs.length ≤ 2000000000000) (hlen : xs.length = ys.length) (hb : b < w.heap.size) (hr : RowT w b off xs) (hb2 : b2 < w.heap.size) (hr2 : RowT w b2 off2 ys) :
    Calls Tryz.prog 19 #[.slice (some ⟨b, off, none⟩) xs.length cap, .slice (some ⟨b2, off2, none⟩) ys.length cap2] w (Ret (.bool (decide (xs = ys))) w) := by
  have hrow : Hid (∀ (W : World), Below w.heap.size w W → ∀ j, j < xs.length → _) := fun W hW j hj => (hr.below hW hb).at j hj
  have hrow2 : Hid (∀ (W : World), Below w.heap.size w W → ∀ j, j < ys.length → _) := fun W hW j hj => (hr2.below hW hb2).at j hj
  clear hr hr2
  rw [← hlen]
  generalize hn : xs.length = n at hl hlen
  have HN := Lib.hid hn
  have HM := Lib.hid hlen
  clear hn hlen
  generalize hres : decide (xs = ys) = res
  have HR := Lib.hid hres
  clear hres
  go_enter Tryz.func19, Tryz.ntmps19
  go_wp2
  go_loopg [5] n (fun gg i wr => ∃ k : Nat, k ≤ n ∧ n - k ≤ gg ∧ i = .int .i64 k ∧ Hid (Below w.heap.size w wr) ∧ Hid (xs.take k = ys.take k))
  case atStart => exact ⟨0, Nat.zero_le _, by omega, rfl, (Below.refl _ _), rfl⟩
  case round =>
    obtain ⟨k, hkn, hg, rfl, HB, HC⟩ := hrel
    by_cases hlt : k < n
    · have hlz : (k : Int) < (n : Int) := by omega
      have hc := fun m => hrow.out (wr.drewN m) (below_drewN HB.out m) k (by rw [HN.out]; exact hlt)
      have hc2 := fun m => hrow2.out (wr.drewN m) (below_drewN HB.out m) k (by rw [← HM.out]; exact hlt)
      have hgo := fun (h : xs[k]! = ys[k]!) => show xs.take (k + 1) = ys.take (k + 1) by rw [take_get xs k (by rw [HN.out]; exact hlt), take_get ys k (by rw [← HM.out]; exact hlt), HC.out, h]
      have hno := fun (h : ¬ xs[k]! = ys[k]!) => show res = false from by rw [← HR.out]; exact decide_eq_false (fun e => h (by rw [e]))
      generalize xs[k]! = x at hc hgo hno
      generalize ys[k]! = y at hc2 hgo hno
      have e0 := fun m => (hc m).1; have e1 := fun m => (hc m).2.1; have e2 := fun m => (hc m).2.2.1; have e3 := fun m => (hc m).2.2.2.1; have e4 := fun m => (hc m).2.2.2.2
      have f0 := fun m => (hc2 m).1; have f1 := fun m => (hc2 m).2.1; have f2 := fun m => (hc2 m).2.2.1; have f3 := fun m => (hc2 m).2.2.2.1; have f4 := fun m => (hc2 m).2.2.2.2
      clear hc hc2 hrow hrow2
      by_cases hxy : x = y
      · have hq : eqT ⟨x.d, x.c0, x.c1, x.c2, x.c3⟩ ⟨y.d, y.c0, y.c1, y.c2, y.c3⟩ = true := decide_eq_true (by rw [hxy])
        have HG := Lib.hid (hgo hxy)
        clear hgo hno hxy
        go_wp2_with fail
        go_quiet (fail)
        go_wp2
        go_roundg (n - (k + 1))
        case measure => omega
        case rel => exact ⟨k + 1, by omega, by omega, by go_num, below_drewN HB.out _, HG.out⟩
      · have hq : eqT ⟨x.d, x.c0, x.c1, x.c2, x.c3⟩ ⟨y.d, y.c0, y.c1, y.c2, y.c3⟩ = false := decide_eq_false (fun e => hxy (by cases x; cases y; exact e))
        have HG := Lib.hid (hno hxy)
        clear hgo hno hxy
        go_wp2_with fail
        go_quiet (fail)
        go_wp2
        go_returns
        exact ⟨ret_bool HG.out.symm, below_drewN HB.out _⟩
    · have hlz : ¬ (k : Int) < (n : Int) := by omega
      have : k = n := by omega
      subst this
      have HX : Hid (res = true) := by
        have h := HC.out
        rw [List.take_of_length_le (by rw [HN.out]; exact Nat.le_refl _), List.take_of_length_le (by rw [← HM.out]; exact Nat.le_refl _)] at h
        show res = true
        rw [← HR.out]
        exact decide_eq_true h
      clear HC hrow hrow2
      go_wp2
      go_returns
      exact ⟨ret_bool HX.out.symm, HB.out⟩
set_option maxHeartbeats 2000000 in
theorem same_no (xs ys : List TV) (p q : Option Addr) (cap cap2 : Nat) (w : World) (hlen : xs.length ≠ ys.length) (h1 : xs.length ≤ 2000000000000) (h2 : ys.length ≤ 2000000000000) :
    Calls Tryz.prog 19 #[.slice p xs.length cap, .slice q ys.length cap2] w (Ret (.bool (decide (xs = ys))) w) := by
  rw [decide_eq_false (fun e => hlen (by rw [e]))]
  generalize xs.length = n at *
  generalize ys.length = m at *
  have hne : ¬ (n : Int) = (m : Int) := by omega
  have hneb : ((n : Int) != (m : Int)) = true := by simpa using hne
  go_enter Tryz.func19, Tryz.ntmps19
  go_wp2
  go_returns
  exact ⟨rfl, Below.refl _ _⟩
set_option maxHeartbeats 2000000 in
theorem same_nil (p q : Option Addr) (cap cap2 : Nat) (w : World) :
    Calls Tryz.prog 19 #[.slice p 0 cap, .slice q 0 cap2] w (Ret (.bool (decide (([] : List TV) = []))) w) := by
  rw [decide_eq_true rfl]
  go_enter Tryz.func19, Tryz.ntmps19
  go_wp2
  refine wp_loop_rounds 1 ?_
  rw [rounds_succ]
  go_wp2
  go_returns
  exact ⟨rfl, Below.refl _ _⟩
theorem same_any (xs ys : List TV) (va vb : Value) (w : World) (h1 : xs.length ≤ 2000000000000) (h2 : ys.length ≤ 2000000000000) (ha : IsT w va xs) (hb : IsT w vb ys) : Calls Tryz.prog 19 #[va, vb] w (Ret (.bool (decide (xs = ys))) w) := by
  by_cases hlen : xs.length = ys.length
  · rcases ha with ⟨rfl, p, cap, rfl, _⟩ | ⟨hne, b, off, cap, rfl, hl, hr⟩
    · obtain rfl : ys = [] := List.length_eq_zero_iff.1 hlen.symm
      obtain ⟨q, d, rfl⟩ := hb.slice
      exact same_nil p q cap d w
    · rcases hb with ⟨rfl, q, d, rfl, _⟩ | ⟨_, b2, off2, cap2, rfl, hl2, hr2⟩
      · exact absurd (List.length_eq_zero_iff.1 hlen) hne
      · exact same_row xs ys b off cap b2 off2 cap2 w h1 hlen hl hr hl2 hr2
  · obtain ⟨p, c, rfl⟩ := ha.slice
    obtain ⟨q, d, rfl⟩ := hb.slice
    exact same_no xs ys p q c d w hlen h1 h2

set_option maxRecDepth 100000 in
set_option maxHeartbeats 4000000 in
theorem equal_row (xs ys : List TV) (b off cap b2 off2 cap2 : Nat) (w : World) (hl : xs.length ≤ 2000000000000) (hlen : xs.length = ys.length) (hb : b < w.heap.size) (hr : RowT w b off xs) (hb2 : b2 < w.heap.size) (hr2 : RowT w b2 off2 ys) :
    Calls Tryz.prog 106 #[.slice (some ⟨b, off, none⟩) xs.length cap, .slice (some ⟨b2, off2, none⟩) ys.length cap2] w (Ret (.bool (decide (xs = ys))) w) := by
  have hrow : Hid (∀ (W : World), Below w.heap.size w W → ∀ j, j < xs.length → _) := fun W hW j hj => (hr.below hW hb).at j hj
  have hrow2 : Hid (∀ (W : World), Below w.heap.size w W → ∀ j, j < ys.length → _) := fun W hW j hj => (hr2.below hW hb2).at j hj
  clear hr hr2
  rw [← hlen]
  generalize hn : xs.length = n at hl hlen
  have HN := Lib.hid hn
  have HM := Lib.hid hlen
  clear hn hlen
  generalize hres : decide (xs = ys) = res
  have HR := Lib.hid hres
  clear hres
  go_enter Tryz.func106, Tryz.ntmps106
  go_wp2
  go_loopg [13] n (fun gg i wr => ∃ k : Nat, k ≤ n ∧ n - k ≤ gg ∧ i = .int .i64 k ∧ Hid (Below w.heap.size w wr) ∧ Hid (xs.take k = ys.take k))
  case atStart => exact ⟨0, Nat.zero_le _, by omega, rfl, (Below.refl _ _), rfl⟩
  case round =>
    obtain ⟨k, hkn, hg, rfl, HB, HC⟩ := hrel
    by_cases hlt : k < n
    · have hlz : (k : Int) < (n : Int) := by omega
      have hc := fun m => hrow.out (wr.drewN m) (below_drewN HB.out m) k (by rw [HN.out]; exact hlt)
      have hc2 := fun m => hrow2.out (wr.drewN m) (below_drewN HB.out m) k (by rw [← HM.out]; exact hlt)
      have hgo := fun (h : xs[k]! = ys[k]!) => show xs.take (k + 1) = ys.take (k + 1) by rw [take_get xs k (by rw [HN.out]; exact hlt), take_get ys k (by rw [← HM.out]; exact hlt), HC.out, h]
      have hno := fun (h : ¬ xs[k]! = ys[k]!) => show res = false from by rw [← HR.out]; exact decide_eq_false (fun e => h (by rw [e]))
      generalize xs[k]! = x at hc hgo hno
      generalize ys[k]! = y at hc2 hgo hno
      have e0 := fun m => (hc m).1; have e1 := fun m => (hc m).2.1; have e2 := fun m => (hc m).2.2.1; have e3 := fun m => (hc m).2.2.2.1; have e4 := fun m => (hc m).2.2.2.2
      have f0 := fun m => (hc2 m).1; have f1 := fun m => (hc2 m).2.1; have f2 := fun m => (hc2 m).2.2.1; have f3 := fun m => (hc2 m).2.2.2.1; have f4 := fun m => (hc2 m).2.2.2.2
      clear hc hc2 hrow hrow2
      by_cases hxy : x = y
      · have hq : eqT ⟨x.d, x.c0, x.c1, x.c2, x.c3⟩ ⟨y.d, y.c0, y.c1, y.c2, y.c3⟩ = true := decide_eq_true (by rw [hxy])
        have HG := Lib.hid (hgo hxy)
        clear hgo hno hxy
        go_wp2_with fail
        go_quiet (fail)
        go_wp2
        go_roundg (n - (k + 1))
        case measure => omega
        case rel => exact ⟨k + 1, by omega, by omega, by go_num, below_drewN HB.out _, HG.out⟩
      · have hq : eqT ⟨x.d, x.c0, x.c1, x.c2, x.c3⟩ ⟨y.d, y.c0, y.c1, y.c2, y.c3⟩ = false := decide_eq_false (fun e => hxy (by cases x; cases y; exact e))
        have HG := Lib.hid (hno hxy)
        clear hgo hno hxy
        go_wp2_with fail
        go_quiet (fail)
        go_wp2
        go_returns
        exact ⟨ret_bool HG.out.symm, below_drewN HB.out _⟩
    · have hlz : ¬ (k : Int) < (n : Int) := by omega
      have : k = n := by omega
      subst this
      have HX : Hid (res = true) := by
        have h := HC.out
        rw [List.take_of_length_le (by rw [HN.out]; exact Nat.le_refl _), List.take_of_length_le (by rw [← HM.out]; exact Nat.le_refl _)] at h
        show res = true
        rw [← HR.out]
        exact decide_eq_true h
      clear HC hrow hrow2
      go_wp2
      go_returns
      exact ⟨ret_bool HX.out.symm, HB.out⟩
set_option maxHeartbeats 2000000 in
theorem equal_no (xs ys : List TV) (p q : Option Addr) (cap cap2 : Nat) (w : World) (hlen : xs.length ≠ ys.length) (h1 : xs.length ≤ 2000000000000) (h2 : ys.length ≤ 2000000000000) :
    Calls Tryz.prog 106 #[.slice p xs.length cap, .slice q ys.length cap2] w (Ret (.bool (decide (xs = ys))) w) := by
  rw [decide_eq_false (fun e => hlen (by rw [e]))]
  generalize xs.length = n at *
  generalize ys.length = m at *
  have hne : ¬ (n : Int) = (m : Int) := by omega
  have hneb : ((n : Int) != (m : Int)) = true := by simpa using hne
  go_enter Tryz.func106, Tryz.ntmps106
  go_wp2
  go_returns
  exact ⟨rfl, Below.refl _ _⟩
set_option maxHeartbeats 2000000 in
theorem equal_nil (p q : Option Addr) (cap cap2 : Nat) (w : World) :
    Calls Tryz.prog 106 #[.slice p 0 cap, .slice q 0 cap2] w (Ret (.bool (decide (([] : List TV) = []))) w) := by
  rw [decide_eq_true rfl]
  go_enter Tryz.func106, Tryz.ntmps106
  go_wp2
  refine wp_loop_rounds 1 ?_
  rw [rounds_succ]
  go_wp2
  go_returns
  exact ⟨rfl, Below.refl _ _⟩
theorem equal_any (xs ys : List TV) (va vb : Value) (w : World) (h1 : xs.length ≤ 2000000000000) (h2 : ys.length ≤ 2000000000000) (ha : IsT w va xs) (hb : IsT w vb ys) : Calls Tryz.prog 106 #[va, vb] w (Ret (.bool (decide (xs = ys))) w) := by
  by_cases hlen : xs.length = ys.length
  · rcases ha with ⟨rfl, p, cap, rfl, _⟩ | ⟨hne, b, off, cap, rfl, hl, hr⟩
    · obtain rfl : ys = [] := List.length_eq_zero_iff.1 hlen.symm
      obtain ⟨q, d, rfl⟩ := hb.slice
      exact equal_nil p q cap d w
    · rcases hb with ⟨rfl, q, d, rfl, _⟩ | ⟨_, b2, off2, cap2, rfl, hl2, hr2⟩
      · exact absurd (List.length_eq_zero_iff.1 hlen) hne
      · exact equal_row xs ys b off cap b2 off2 cap2 w h1 hlen hl hr hl2 hr2
  · obtain ⟨p, c, rfl⟩ := ha.slice
    obtain ⟨q, d, rfl⟩ := hb.slice
    exact equal_no xs ys p q c d w hlen h1 h2
end Go.Proofs.YthhceggcdaljdaaGreat
/- boxes of timestamps and of records -/
namespace Go.Proofs.YthhceggcdaljdaaGreat
open Go.RowKit
set_option linter.unusedVariables false
set_option linter.unusedSimpArgs false

/-- a box of a timestamp; a box of a record -/
structure BT5 (w : World) (b : Nat) (t : TV) : Prop where
  c0 : w.cell? ⟨b, 0, none⟩ = some (.int .i64 t.d)
  c1 : w.cell? ⟨b, 1, none⟩ = some (.int .i64 t.c0)
  c2 : w.cell? ⟨b, 2, none⟩ = some (.int .i64 t.c1)
  c3 : w.cell? ⟨b, 3, none⟩ = some (.int .i64 t.c2)
  c4 : w.cell? ⟨b, 4, none⟩ = some (.int .i64 t.c3)
  l : b < w.heap.size
structure BR2 (w : World) (b : Nat) (r : RV) : Prop where
  c0 : w.cell? ⟨b, 0, none⟩ = some (.int .i64 r.k)
  c1 : w.cell? ⟨b, 1, none⟩ = some (.int .i64 r.v)
  l : b < w.heap.size
theorem BT5.below {w w' : World} {b : Nat} {t : TV} (h : BT5 w b t) (hb : Below w.heap.size w w') : BT5 w' b t :=
  ⟨(hb.cell (p := ⟨b, 0, none⟩) h.l).trans h.c0, (hb.cell (p := ⟨b, 1, none⟩) h.l).trans h.c1, (hb.cell (p := ⟨b, 2, none⟩) h.l).trans h.c2, (hb.cell (p := ⟨b, 3, none⟩) h.l).trans h.c3, (hb.cell (p := ⟨b, 4, none⟩) h.l).trans h.c4, Nat.lt_of_lt_of_le h.l hb.size⟩
theorem BR2.below {w w' : World} {b : Nat} {r : RV} (h : BR2 w b r) (hb : Below w.heap.size w w') : BR2 w' b r :=
  ⟨(hb.cell (p := ⟨b, 0, none⟩) h.l).trans h.c0, (hb.cell (p := ⟨b, 1, none⟩) h.l).trans h.c1, Nat.lt_of_lt_of_le h.l hb.size⟩
theorem BT5.new (w : World) (t : TV) : BT5 (w.alloc (.cells #[.int .i64 t.d, .int .i64 t.c0, .int .i64 t.c1, .int .i64 t.c2, .int .i64 t.c3] 25)) w.heap.size t := ⟨by simp, by simp, by simp, by simp, by simp, by simp⟩
theorem BR2.new (w : World) (r : RV) : BR2 (w.alloc (.cells #[.int .i64 r.k, .int .i64 r.v] 27)) w.heap.size r := ⟨by simp, by simp, by simp⟩
theorem BT5.more {w : World} {b : Nat} {t : TV} (h : BT5 w b t) (o : Obj) : BT5 (w.alloc o) b t := h.below ((Below.refl _ w).alloc (Nat.le_refl _) o)
theorem BR2.more {w : World} {b : Nat} {t : RV} (h : BR2 w b t) (o : Obj) : BR2 (w.alloc o) b t := h.below ((Below.refl _ w).alloc (Nat.le_refl _) o)
theorem size_alloc (w : World) (o : Obj) : (w.alloc o).heap.size = w.heap.size + 1 := by simp
end Go.Proofs.YthhceggcdaljdaaGreat
/- the program's: a cell with a slot of a timestamp -/
namespace Go.Proofs.YthhceggcdaljdaaGreat
open Go.RowKit
set_option linter.unusedVariables false
set_option linter.unusedSimpArgs false

def freshW (t : TV) : SW := ⟨t, none, 0, 0, none, 0, 0, none, 0, 0, false, false⟩
theorem isSl_fresh (w : World) (t : TV) : isSl w (freshW t) (freshS t) := ⟨rfl, rfl, rfl, rfl, Nat.le_refl _, RowKind.Is.nil _, rfl, Nat.le_refl _, RowKind.Is.nil _, rfl, Nat.le_refl _, RowKind.Is.nil _⟩
theorem apart_fresh (B : Nat) (w : World) (t : TV) : ApartS B w (freshW t) := ⟨fun h => absurd rfl h, fun h => absurd rfl h, fun h => absurd rfl h⟩
/-- the cell with a slot of t, and its place -/
def begunS (c : List SV) (t : TV) (k : Nat) : List SV := if k < c.length ∧ (c[k]!).t = t then c else c.take k ++ freshS t :: c.drop k
def BegunR (B : Nat) (w : World) (r : Option Nat) (c : List SV) (t : TV) (e : Ending) (w' : World) : Prop := ∃ v' xs' k, e = .returned (.tuple #[v', .int .i64 ((k : Nat) : Int)]) ∧ AtK c t k ∧ OwnC B w' v' xs' (begunS c t k) ∧ w.grownBy w' r
theorem eqT_eq (a b : TV) : eqT a b = decide (a = b) := by
  rw [eqT_iff, Bool.eq_iff_iff]
  obtain ⟨a0, a1, a2, a3, a4⟩ := a
  obtain ⟨b0, b1, b2, b3, b4⟩ := b
  simp
attribute [local go_sem ↓] eqTime neTime
set_option maxRecDepth 100000 in
set_option maxHeartbeats 16000000 in
theorem pbegun_any (xs : List SW) (c : List SV) (v : Value) (t : TV) (B : Nat) (w : World) (h : OwnC B w v xs c) (hl : c.length ≤ 800000) (hB : B ≤ w.heap.size) : Calls Tryz.prog 48 #[v, TV.val t] w (BegunR B w v.ownBlock c t) := by
  have HO := Lib.hid h
  have hlen := h.len
  have HR := fun h0 => h.row h0
  have HNe : Hid (∀ W : World, W.heap.size = w.heap.size + 1 → v.ownBlock ≠ some (w.heap.size + 1)) := fun W hW e => by have := (h.own.lt _ e).2; omega
  have hsl : ∃ p k, v = .slice p c.length k := by obtain ⟨p, k, e⟩ := h.own.is.slice; exact ⟨p, k, by rw [← hlen]; exact e⟩
  have HIns := Lib.hid (fun (W : World) bx i (hW : Below w.heap.size w W) (hx : Boxed W bx (swRow (freshW t)) 40) (hi : i ≤ c.length) (hne : v.ownBlock ≠ some bx) => sins_any xs (freshW t) v i B bx W (h.below hW).own (by omega) (by omega) (Nat.le_trans hB hW.size) hx hne)
  have HFin : Hid (∀ (W W' : World) v' i, i ≤ c.length → Below w.heap.size w W → RSl.Own B W' v' (xs.take i ++ freshW t :: xs.drop i) → W.grownBy W' v.ownBlock → OwnC B W' v' (xs.take i ++ freshW t :: xs.drop i) (c.take i ++ freshS t :: c.drop i) ∧ w.grownBy W' v.ownBlock) := fun W W' v' i hi hW hO hG => by
    have hq := areSl.off (h.below hW) hG
    refine ⟨⟨hO, areSl_ins hq.1 hi (isSl_fresh _ t), fun x hx => ?_⟩, grown_tr (grown_of hW _) hG⟩
    rcases List.mem_append.1 hx with hx | hx
    · exact hq.2 x (List.mem_of_mem_take hx)
    · rcases List.mem_cons.1 hx with rfl | hx
      · exact apart_fresh _ _ _
      · exact hq.2 x (List.mem_of_mem_drop hx)
  have HRow : Hid (∀ k, k < c.length → ∃ g, (∃ cap, v = .slice (some ⟨g, 0, none⟩) c.length cap) ∧ ∀ W, Below w.heap.size w W → W.cell? ⟨g, k * 10, none⟩ = some (.int .i64 (c[k]!).t.d) ∧ W.cell? ⟨g, k * 10 + 1, none⟩ = some (.int .i64 (c[k]!).t.c0) ∧ W.cell? ⟨g, k * 10 + 2, none⟩ = some (.int .i64 (c[k]!).t.c1) ∧ W.cell? ⟨g, k * 10 + 3, none⟩ = some (.int .i64 (c[k]!).t.c2) ∧ W.cell? ⟨g, k * 10 + 4, none⟩ = some (.int .i64 (c[k]!).t.c3)) := fun k hk => by
    obtain ⟨g, cap, e, hBg, hgl, hfr, hcells⟩ := HR (by omega)
    refine ⟨g, ⟨cap, by rw [e, hlen]⟩, fun W hW => ?_⟩
    obtain ⟨e0, e1, e2, e3, e4, _⟩ := hcells k (by omega)
    rw [(h.are.2 k hk).t] at e0 e1 e2 e3 e4
    exact ⟨(hW.cell (p := ⟨g, k * 10, none⟩) hgl).trans e0, (hW.cell (p := ⟨g, k * 10 + 1, none⟩) hgl).trans e1, (hW.cell (p := ⟨g, k * 10 + 2, none⟩) hgl).trans e2, (hW.cell (p := ⟨g, k * 10 + 3, none⟩) hgl).trans e3, (hW.cell (p := ⟨g, k * 10 + 4, none⟩) hgl).trans e4⟩
  have HOwb : Hid (∀ k, v.ownBlock = some k → k < w.heap.size) := fun k e => (h.own.lt k e).2
  clear h HR HNe hB
  obtain ⟨pv, kv, rfl⟩ := hsl
  obtain ⟨td, t0, t1, t2, t3⟩ := t
  have HL := Lib.hid (fun (u : TV) W => less_anyC u ⟨td, t0, t1, t2, t3⟩ W)
  have HEnd : Hid (∀ k, AtK c ⟨td, t0, t1, t2, t3⟩ k → ¬ (k < c.length ∧ (c[k]!).t = ⟨td, t0, t1, t2, t3⟩) → ∀ W' v' xs', OwnC B W' v' xs' (c.take k ++ freshS ⟨td, t0, t1, t2, t3⟩ :: c.drop k) → w.grownBy W' (Value.ownBlock (.slice pv c.length kv)) → BegunR B w (Value.ownBlock (.slice pv c.length kv)) c ⟨td, t0, t1, t2, t3⟩ (.returned (.tuple #[v', .int .i64 ((k : Nat) : Int)])) W') := fun k h1 h2 W' v' xs' h3 h4 => ⟨v', xs', k, rfl, h1, by unfold begunS; rw [if_neg h2]; exact h3, h4⟩
  have HHit : Hid (∀ k, AtK c ⟨td, t0, t1, t2, t3⟩ k → (k < c.length ∧ (c[k]!).t = ⟨td, t0, t1, t2, t3⟩) → ∀ W', Below w.heap.size w W' → BegunR B w (Value.ownBlock (.slice pv c.length kv)) c ⟨td, t0, t1, t2, t3⟩ (.returned (.tuple #[.slice pv c.length kv, .int .i64 ((k : Nat) : Int)])) W') := fun k h1 h2 W' h3 => ⟨_, xs, k, rfl, h1, by unfold begunS; rw [if_pos h2]; exact HO.out.below h3, grown_of h3 _⟩
  clear HO
  generalize Value.ownBlock (.slice pv c.length kv) = ob at *
  have hbx := BT5.new w ⟨td, t0, t1, t2, t3⟩
  have hb0 := (Below.refl w.heap.size w).alloc (Nat.le_refl _) (.cells #[.int .i64 td, .int .i64 t0, .int .i64 t1, .int .i64 t2, .int .i64 t3] 25)
  dsimp only at hbx
  go_enter Tryz.func48, Tryz.ntmps48
  go_upto_region 1 with (fail)
  generalize w.alloc (.cells #[.int .i64 td, .int .i64 t0, .int .i64 t1, .int .i64 t2, .int .i64 t3] 25) = w0 at *
  have HB0 := Lib.hid hb0
  have HX0 := Lib.hid hbx
  clear hbx hb0
  go_wp2
  go_loopg [6] c.length (fun gg i wr => ∃ k : Nat, k ≤ c.length ∧ c.length - k ≤ gg ∧ i = .int .i64 (k : Int) ∧ Hid (Below w.heap.size w wr) ∧ Hid (BT5 wr w.heap.size ⟨td, t0, t1, t2, t3⟩) ∧ Hid (∀ j, j < k → (c[j]!).t.lt ⟨td, t0, t1, t2, t3⟩ = true))
  case atStart => exact ⟨0, Nat.zero_le _, by omega, rfl, HB0.out, HX0.out, fun j hj => absurd hj (Nat.not_lt_zero j)⟩
  case round =>
    obtain ⟨k, hkn, hg, rfl, HB, HX, HLo⟩ := hrel
    clear HB0 HX0
    by_cases hlt : k < c.length
    · have hlz : (k : Int) < (c.length : Int) := by omega
      obtain ⟨gr, ⟨cap, hv⟩, hc⟩ := HRow.out k hlt
      simp only [Value.slice.injEq, true_and] at hv
      obtain ⟨rfl, rfl⟩ := hv
      obtain ⟨e0, e1, e2, e3, e4⟩ := hc wr HB.out
      clear hc
      have HAt : Hid ((c[k]!).t.lt ⟨td, t0, t1, t2, t3⟩ = false → AtK c ⟨td, t0, t1, t2, t3⟩ k) := fun q => ⟨hkn, HLo.out, fun _ => q⟩
      have HLo2 : Hid ((c[k]!).t.lt ⟨td, t0, t1, t2, t3⟩ = true → ∀ j, j < k + 1 → (c[j]!).t.lt ⟨td, t0, t1, t2, t3⟩ = true) := fun q j hj => by
        by_cases e : j = k
        · subst e; exact q
        · exact HLo.out j (by omega)
      have HEn := Lib.hid (HEnd.out k)
      have HHi := Lib.hid (HHit.out k)
      have HAq0 := HL.out (c[k]!).t
      have HEq := eqT_eq (c[k]!).t ⟨td, t0, t1, t2, t3⟩
      generalize TV.lt (c[k]!).t ⟨td, t0, t1, t2, t3⟩ = ab at *
      generalize (c[k]!).t = y at *
      obtain ⟨y0, y1, y2, y3, y4⟩ := y
      dsimp only at e0 e1 e2 e3 e4 HAq0
      have P0 := fun p => beh_cell e0 p
      have P1 := fun p => beh_cell e1 p
      have P2 := fun p => beh_cell e2 p
      have P3 := fun p => beh_cell e3 p
      have P4 := fun p => beh_cell e4 p
      have B0 := fun p => beh_cell HX.out.c0 p
      have B1 := fun p => beh_cell HX.out.c1 p
      have B2 := fun p => beh_cell HX.out.c2 p
      have B3 := fun p => beh_cell HX.out.c3 p
      have B4 := fun p => beh_cell HX.out.c4 p
      dsimp only at B0 B1 B2 B3 B4
      have HAq := Lib.hid (fun p : Beh wr => HAq0 p.w)
      clear HAq0 HEnd HHit
      cases ab
      · have hA := Lib.hid (HAt.out rfl)
        clear HAt HLo2 HLo
        go_wp2_with fail
        refine wp_region_beh (by kernel_rfl) (by kernel_rfl) ?_
        repeat (first | go_big_quiet_step (with_reducible exact Calls.beh (HAq.out _)) | quiet_step (with_reducible exact Calls.beh (HAq.out _)))
        refine wpQuiet_nil ?_
        intro _ hw'
        obtain ⟨g, hw''⟩ := hw'
        subst hw''
        have HBw := Lib.hid (bcall HB.out g.h HB.out.size)
        have HXw := Lib.hid (HX.out.below g.h)
        have hwq : wr.heap.size ≤ g.w.heap.size := g.h.size
        replace e0 := P0 g
        replace e1 := P1 g
        replace e2 := P2 g
        replace e3 := P3 g
        replace e4 := P4 g
        generalize g.w = wq at *
        clear g P0 P1 P2 P3 P4 B0 B1 B2 B3 B4 HAq HB HX
        replace P0 := fun p => beh_cell e0 p
        replace P1 := fun p => beh_cell e1 p
        replace P2 := fun p => beh_cell e2 p
        replace P3 := fun p => beh_cell e3 p
        replace P4 := fun p => beh_cell e4 p
        have B0 := fun p => beh_cell HXw.out.c0 p
        have B1 := fun p => beh_cell HXw.out.c1 p
        have B2 := fun p => beh_cell HXw.out.c2 p
        have B3 := fun p => beh_cell HXw.out.c3 p
        have B4 := fun p => beh_cell HXw.out.c4 p
        dsimp only at B0 B1 B2 B3 B4
        cases heq : eqT ⟨y0, y1, y2, y3, y4⟩ ⟨td, t0, t1, t2, t3⟩
        · rw [heq] at HEq
          have HEn2 := Lib.hid (HEn.out hA.out (fun q => of_decide_eq_false HEq.symm q.2))
          clear HEn HHi HEq
          go_wp2_with fail
          refine wp_region_beh (by kernel_rfl) (by kernel_rfl) ?_
          repeat (first | go_big_quiet_step (fail) | quiet_step (fail))
          refine wpQuiet_nil ?_
          intro _ hw'
          obtain ⟨g, hw''⟩ := hw'
          subst hw''
          have HBw2 := Lib.hid (bcall HBw.out g.h HBw.out.size)
          have HXw2 := Lib.hid (HXw.out.below g.h)
          generalize g.w = wz at *
          clear g P0 P1 P2 P3 P4 B0 B1 B2 B3 B4 HXw HBw
          have HBw := HBw2
          have HEnd := HEn2
          have HKle := hkn
          obtain ⟨z0, z1, z2, z3, z4, zl⟩ := HXw2.out
          dsimp only at z0 z1 z2 z3 z4
          go_wp2_with fail
          refine (HIns.out _ _ k (HBw.out.trans (((Below.refl _ _).alloc (Nat.le_refl _) _).mono HBw.out.size)) (Boxed.new _ _ _) HKle (fun e => by have := HOwb.out _ e; have := HBw.out.size; omega)).mono ?_
          rintro e w9 ⟨v9, rfl, hO9, hG9⟩
          have HF := Lib.hid (HFin.out _ w9 v9 k HKle (HBw.out.trans (((Below.refl _ _).alloc (Nat.le_refl _) _).mono HBw.out.size)) hO9 hG9)
          clear hO9 hG9 HIns HFin
          go_wp2
          go_returns
          exact HEnd.out w9 v9 _ HF.out.1 HF.out.2
        · rw [heq] at HEq
          have HHi2 := Lib.hid (HHi.out hA.out ⟨hlt, of_decide_eq_true HEq.symm⟩)
          clear HEn HHi HEq
          go_wp2_with fail
          refine wp_region_beh (by kernel_rfl) (by kernel_rfl) ?_
          repeat (first | go_big_quiet_step (fail) | quiet_step (fail))
          refine wpQuiet_nil ?_
          intro _ hw'
          obtain ⟨g, hw''⟩ := hw'
          subst hw''
          have HBw2 := Lib.hid (bcall HBw.out g.h HBw.out.size)
          generalize g.w = wz at *
          clear g P0 P1 P2 P3 P4 B0 B1 B2 B3 B4
          go_wp2
          go_returns
          exact HHi2.out _ HBw2.out
      · have hL := Lib.hid (HLo2.out rfl)
        clear HAt HLo2 HLo HEn HHi HEq
        go_wp2_with fail
        refine wp_region_beh (by kernel_rfl) (by kernel_rfl) ?_
        repeat (first | go_big_quiet_step (with_reducible exact Calls.beh (HAq.out _)) | quiet_step (with_reducible exact Calls.beh (HAq.out _)))
        refine wpQuiet_nil ?_
        intro _ hw'
        obtain ⟨g, hw''⟩ := hw'
        subst hw''
        have HBw := Lib.hid (bcall HB.out g.h HB.out.size)
        have HXw := Lib.hid (HX.out.below g.h)
        generalize g.w = wq at *
        clear g P0 P1 P2 P3 P4 B0 B1 B2 B3 B4
        go_wp2
        go_roundg (c.length - (k + 1))
        case measure => omega
        case rel => exact ⟨k + 1, by omega, by omega, by go_num, HBw.out, HXw.out, hL.out⟩
    · obtain rfl : k = c.length := by omega
      have hlz : ¬ (c.length : Int) < (c.length : Int) := by omega
      have HEn2 := Lib.hid (HEnd.out c.length ⟨Nat.le_refl _, HLo.out, fun q => absurd q (Nat.lt_irrefl _)⟩ (fun q => absurd q.1 (Nat.lt_irrefl _)))
      clear HEnd HHit HLo
      go_wp2_with fail
      refine wp_region_beh (by kernel_rfl) (by kernel_rfl) ?_
      repeat (first | go_big_quiet_step (fail) | quiet_step (fail))
      refine wpQuiet_nil ?_
      intro _ hw'
      obtain ⟨g, hw''⟩ := hw'
      subst hw''
      have HBw := Lib.hid (bcall HB.out g.h HB.out.size)
      have HXw := Lib.hid (HX.out.below g.h)
      generalize g.w = wq at *
      clear g HB HX
      go_wp2_with fail
      refine wp_region_beh (by kernel_rfl) (by kernel_rfl) ?_
      repeat (first | go_big_quiet_step (fail) | quiet_step (fail))
      refine wpQuiet_nil ?_
      intro _ hw'
      obtain ⟨g, hw''⟩ := hw'
      subst hw''
      have HBw2 := Lib.hid (bcall HBw.out g.h HBw.out.size)
      have HXw2 := Lib.hid (HXw.out.below g.h)
      generalize g.w = wz at *
      clear g HBw HXw
      have HBw := HBw2
      have HEnd := HEn2
      have HKle := hkn
      obtain ⟨z0, z1, z2, z3, z4, zl⟩ := HXw2.out
      dsimp only at z0 z1 z2 z3 z4
      go_wp2_with fail
      refine (HIns.out _ _ c.length (HBw.out.trans (((Below.refl _ _).alloc (Nat.le_refl _) _).mono HBw.out.size)) (Boxed.new _ _ _) HKle (fun e => by have := HOwb.out _ e; have := HBw.out.size; omega)).mono ?_
      rintro e w9 ⟨v9, rfl, hO9, hG9⟩
      have HF := Lib.hid (HFin.out _ w9 v9 c.length HKle (HBw.out.trans (((Below.refl _ _).alloc (Nat.le_refl _) _).mono HBw.out.size)) hO9 hG9)
      clear hO9 hG9 HIns HFin
      go_wp2
      go_returns
      exact HEnd.out w9 v9 _ HF.out.1 HF.out.2
end Go.Proofs.YthhceggcdaljdaaGreat
