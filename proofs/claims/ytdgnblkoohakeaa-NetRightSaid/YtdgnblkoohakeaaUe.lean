/- two messages: the same? the document's Len, Short, SameMsgs -/
import Derived.Test.YtdgnblkoohakeaaUd
import Derived.Laws.StructEq
namespace Go.Proofs.Ytdgnblkoohakeaa
open Go.RowKit
set_option linter.unusedVariables false
set_option linter.unusedSimpArgs false

def eqTm (a0 a1 a2 a3 a4 b0 b1 b2 b3 b4 : Int) : Bool := decide (a0 = b0) && (decide (a1 = b1) && (decide (a2 = b2) && (decide (a3 = b3) && decide (a4 = b4))))
def eqRc (a0 a1 b0 b1 : Int) : Bool := decide (a0 = b0) && decide (a1 = b1)
def eqM (a b : MV) : Bool := decide (a = b)
theorem eqM_iff (a b : MV) : eqM a b = (decide (a.e = b.e) && (eqTm a.d a.c0 a.c1 a.c2 a.c3 b.d b.c0 b.c1 b.c2 b.c3 && (eqRc a.k a.v b.k b.v && (decide (a.n = b.n) && decide (a.c = b.c))))) := by
  rw [Bool.eq_iff_iff]
  simp only [eqM, eqTm, eqRc, decide_eq_true_eq, Bool.and_eq_true]
  constructor
  · intro h; subst h; exact ⟨rfl, ⟨rfl, rfl, rfl, rfl, rfl⟩, ⟨rfl, rfl⟩, rfl, rfl⟩
  · rintro ⟨h0, ⟨h1, h2, h3, h4, h5⟩, ⟨h6, h7⟩, h8, h9⟩; exact mv_eq h0 h1 h2 h3 h4 h5 h6 h7 h8 h9
theorem eqArr4U (d : Nat) (a0 a1 a2 a3 b0 b1 b2 b3 : Int) (w : World) :
    (Op.equalIn (d + 1 + 1) 23 (.agg #[.int .i64 a0, .int .i64 a1, .int .i64 a2, .int .i64 a3]) (.agg #[.int .i64 b0, .int .i64 b1, .int .i64 b2, .int .i64 b3])).run Try.prog w
      = .ok (a0 == b0 && (a1 == b1 && (a2 == b2 && a3 == b3))) w := by
  have hp : ∀ (x0 x1 x2 x3 : Value) (w : World), (part 3 #[x0, x1, x2, x3] 0).run Try.prog w = .ok x0 w ∧ (part 3 #[x0, x1, x2, x3] 1).run Try.prog w = .ok x1 w ∧ (part 3 #[x0, x1, x2, x3] 2).run Try.prog w = .ok x2 w ∧ (part 3 #[x0, x1, x2, x3] 3).run Try.prog w = .ok x3 w := fun _ _ _ _ _ => ⟨by kernel_rfl, by kernel_rfl, by kernel_rfl, by kernel_rfl⟩
  have hs : ∀ w, (sizeOf 3).run Try.prog w = .ok 1 w := fun _ => by kernel_rfl
  have he : ∀ (a b : Int) (w : World), (Op.equalIn (d + 1) 3 (.int .i64 a) (.int .i64 b)).run Try.prog w = .ok (a == b) w := fun a b w => run_equalIn_int w d _ .i64 .i64 a b Try.underlying3
  rw [Op.equalIn]
  simp [run_underlying Try.underlying23, hs, Std.Legacy.Range.forIn_eq_forIn_range', Std.Legacy.Range.size, List.range', hp, he]
  by_cases h0 : a0 = b0 <;> by_cases h1 : a1 = b1 <;> by_cases h2 : a2 = b2 <;> by_cases h3 : a3 = b3 <;> simp [h0, h1, h2, h3, hp, he]
section
attribute [local go_sem] eqArr4U
set_option maxRecDepth 100000 in
theorem eqTimeInU (d : Nat) (a0 a1 a2 a3 a4 b0 b1 b2 b3 b4 : Int) (w : World) : (Op.equalIn (d + 1 + 1 + 1) 25 (.agg #[.int .i64 a0, .int .i64 a1, .int .i64 a2, .int .i64 a3, .int .i64 a4]) (.agg #[.int .i64 b0, .int .i64 b1, .int .i64 b2, .int .i64 b3, .int .i64 b4])).run Try.prog w = .ok (eqTm a0 a1 a2 a3 a4 b0 b1 b2 b3 b4) w := by
  have u3 := Try.underlying3
  have u22 := Try.underlying23
  have hS : Try.prog.underlying 25 = some (.struct (Try.prog.fieldsOf 25)) := by kernel_rfl
  have hp : Try.prog.stoodInHeld 25 = false := by kernel_rfl
  rw [run_equalIn_agg w (d + 1 + 1) 25 _ _ hS hp]
  simp only [Program.fieldsOf, Try.underlying25]
  unfold eqTm
  go_simp
  by_cases h0 : a0 = b0 <;> by_cases h1 : a1 = b1 <;> by_cases h2 : a2 = b2 <;> by_cases h3 : a3 = b3 <;> by_cases h4 : a4 = b4 <;> simp [h0, h1, h2, h3, h4, Result.andThen]
end
set_option maxRecDepth 100000 in
theorem eqRecInU (d : Nat) (a0 a1 b0 b1 : Int) (w : World) : (Op.equalIn (d + 1 + 1) 27 (.agg #[.int .i64 a0, .int .i64 a1]) (.agg #[.int .i64 b0, .int .i64 b1])).run Try.prog w = .ok (eqRc a0 a1 b0 b1) w := by
  have u3 := Try.underlying2
  have hS : Try.prog.underlying 27 = some (.struct (Try.prog.fieldsOf 27)) := by kernel_rfl
  have hp : Try.prog.stoodInHeld 27 = false := by kernel_rfl
  rw [run_equalIn_agg w (d + 1) 27 _ _ hS hp]
  simp only [Program.fieldsOf, Try.underlying27]
  unfold eqRc
  go_simp
  by_cases h0 : a0 = b0 <;> by_cases h1 : a1 = b1 <;> simp [h0, h1, Result.andThen]
set_option maxRecDepth 100000 in
set_option maxHeartbeats 2000000 in
theorem eqMsgIn (d : Nat) (a b : MV) (w : World) : (Op.equalIn (d + 1 + 1 + 1 + 1) 29 a.val b.val).run Try.prog w = .ok (eqM a b) w := by
  have u3 := Try.underlying3
  have hS : Try.prog.underlying 29 = some (.struct (Try.prog.fieldsOf 29)) := by kernel_rfl
  have hp : Try.prog.stoodInHeld 29 = false := by kernel_rfl
  rw [eqM_iff]
  obtain ⟨a0, a1, a2, a3, a4, a5, a6, a7, a8, a9⟩ := a
  obtain ⟨b0, b1, b2, b3, b4, b5, b6, b7, b8, b9⟩ := b
  have hT := eqTimeInU d a1 a2 a3 a4 a5 b1 b2 b3 b4 b5
  have hR := eqRecInU (d + 1) a6 a7 b6 b7
  rw [run_equalIn_agg w (d + 1 + 1 + 1) 29 _ _ hS hp]
  simp only [Program.fieldsOf, Try.underlying29]
  go_simp
  generalize eqTm a1 a2 a3 a4 a5 b1 b2 b3 b4 b5 = q1 at *
  generalize eqRc a6 a7 b6 b7 = q2 at *
  by_cases h0 : a0 = b0 <;> by_cases h8 : a8 = b8 <;> by_cases h9 : a9 = b9 <;> cases q1 <;> cases q2 <;> simp [h0, h8, h9, Result.andThen, hT, hR]
theorem eqMsg (a0 a1 a2 a3 a4 a5 a6 a7 a8 a9 b0 b1 b2 b3 b4 b5 b6 b7 b8 b9 : Int) (w : World) : (binOp .eql 29 (.agg #[.int .i64 a0, .int .i64 a1, .int .i64 a2, .int .i64 a3, .int .i64 a4, .int .i64 a5, .int .i64 a6, .int .i64 a7, .int .i64 a8, .int .i64 a9]) (.agg #[.int .i64 b0, .int .i64 b1, .int .i64 b2, .int .i64 b3, .int .i64 b4, .int .i64 b5, .int .i64 b6, .int .i64 b7, .int .i64 b8, .int .i64 b9])).run Try.prog w = .ok (.bool (eqM ⟨a0, a1, a2, a3, a4, a5, a6, a7, a8, a9⟩ ⟨b0, b1, b2, b3, b4, b5, b6, b7, b8, b9⟩)) w := by
  have h := eqMsgIn 9996 ⟨a0, a1, a2, a3, a4, a5, a6, a7, a8, a9⟩ ⟨b0, b1, b2, b3, b4, b5, b6, b7, b8, b9⟩ w
  rw [run_eql_struct, show (10000 : Nat) = 9996 + 1 + 1 + 1 + 1 from rfl, h]
  rfl
theorem neMsg (a0 a1 a2 a3 a4 a5 a6 a7 a8 a9 b0 b1 b2 b3 b4 b5 b6 b7 b8 b9 : Int) (w : World) : (binOp .neq 29 (.agg #[.int .i64 a0, .int .i64 a1, .int .i64 a2, .int .i64 a3, .int .i64 a4, .int .i64 a5, .int .i64 a6, .int .i64 a7, .int .i64 a8, .int .i64 a9]) (.agg #[.int .i64 b0, .int .i64 b1, .int .i64 b2, .int .i64 b3, .int .i64 b4, .int .i64 b5, .int .i64 b6, .int .i64 b7, .int .i64 b8, .int .i64 b9])).run Try.prog w = .ok (.bool (!eqM ⟨a0, a1, a2, a3, a4, a5, a6, a7, a8, a9⟩ ⟨b0, b1, b2, b3, b4, b5, b6, b7, b8, b9⟩)) w := by
  have h := eqMsgIn 9996 ⟨a0, a1, a2, a3, a4, a5, a6, a7, a8, a9⟩ ⟨b0, b1, b2, b3, b4, b5, b6, b7, b8, b9⟩ w
  rw [run_neq_struct, show (10000 : Nat) = 9996 + 1 + 1 + 1 + 1 from rfl, h]
  rfl
/-! ### how many, which -/
theorem list_hit {n : List BV} {e f t : Int} : ∀ {k : Nat}, k < n.length → (∀ j, j < k → isB n[j]! e f t = false) → isB n[k]! e f t = true → listL n e f t = (n[k]!).l := by
  induction n with
  | nil => intro k hk; exact absurd hk (Nat.not_lt_zero k)
  | cons b n ih =>
    intro k hk hno hyes
    cases k with
    | zero =>
      have h : isB b e f t = true := hyes
      simp only [listL]
      rw [if_pos h]
      rfl
    | succ k =>
      have h0 : isB b e f t = false := hno 0 (by omega)
      simp only [listL]
      rw [if_neg (by rw [h0]; decide)]
      exact ih (by simpa using hk) (fun j hj => hno (j + 1) (by omega)) hyes
theorem list_miss {n : List BV} {e f t : Int} (h : ∀ j, j < n.length → isB n[j]! e f t = false) : listL n e f t = [] :=
  lenL_zero fun b hb => by
    obtain ⟨j, hj, rfl⟩ := List.mem_iff_getElem.1 hb
    have := h j hj
    rwa [getElem!_pos n j hj] at this
set_option maxRecDepth 100000 in
set_option maxHeartbeats 8000000 in
theorem ulen_any (n : List BV) (v : Value) (e f t : Int) (w : World) (hl : n.length ≤ 900000) (h : IsBs w v n) : Calls Try.prog 16 #[v, .int .i64 e, .int .i64 f, .int .i64 t] w (Ret (.int .i64 (lenN n e f t : Int)) w) := by
  have HR := Lib.hid (uright_any n v w hl h)
  have HIs := Lib.hid (fun a1 a2 a3 a4 b1 b2 b3 W => uis_any a1 a2 a3 a4 b1 b2 b3 W)
  obtain ⟨p, c, rfl, ho⟩ := h.opened
  have HO := Lib.hid ho
  have HLen : Hid (rightN n = true → lenN n e f t = (listL n e f t).length) := fun q => by unfold lenN; rw [if_pos q, lenL_is]
  have HNo : Hid (rightN n = false → lenN n e f t = 0) := fun q => by unfold lenN; rw [if_neg (by rw [q]; decide)]
  generalize lenN n e f t = res at *
  clear h ho
  go_enter Try.func16, Try.ntmps16
  go_wp2_with fail
  refine (HR.out).mono ?_
  rintro e' w1 ⟨rfl, hb1⟩
  have HB1 := Lib.hid hb1
  clear hb1 HR
  cases hr : rightN n
  · have hz := HNo.out hr
    have HZ := Lib.hid hz
    clear hz hr HLen HNo
    go_wp2
    refine wp_loop_rounds 1 ?_
    rw [rounds_succ]
    by_cases h0 : 0 < n.length
    · have h0z : (0 : Int) < (n.length : Int) := by omega
      go_wp2
      go_returns
      exact ⟨by rw [HZ.out]; rfl, HB1.out⟩
    · have h0z : ¬ (0 : Int) < (n.length : Int) := by omega
      go_wp2
      go_returns
      exact ⟨by rw [HZ.out]; rfl, HB1.out⟩
  · have hz := HLen.out hr
    have HZ := Lib.hid hz
    clear hz hr HLen HNo
    go_wp2_with fail
    go_loopg [10] n.length (fun gg i wr => ∃ k : Nat, k ≤ n.length ∧ n.length - k ≤ gg ∧ i = .int .i64 (k : Int) ∧ Hid (∀ j, j < k → isB n[j]! e f t = false) ∧ Hid (Below w.heap.size w wr))
    case atStart => exact ⟨0, Nat.zero_le _, by omega, rfl, fun j hj => absurd hj (Nat.not_lt_zero j), HB1.out⟩
    case round =>
      obtain ⟨k, hk, hg, rfl, HM, HB⟩ := hrel
      clear HB1
      by_cases hlt : k < n.length
      · have hkz : (k : Int) < (n.length : Int) := by omega
        obtain ⟨b, off, q, d, rfl, hI, hc⟩ := HO.out k hlt
        obtain ⟨e0, e1, e2, e3⟩ := hc wr HB.out
        have hZ := isZ_eq n[k]! e f t
        generalize hx : n[k]! = x at *
        have HX := Lib.hid hx
        obtain ⟨xe, xf, xt, xl⟩ := x
        simp only at e0 e1 e2 e3 hZ
        have HIx := Lib.hid (fun W => HIs.out xe xf xt (.slice q xl.length d) e f t W)
        have HC := Lib.hid hc
        simp only at HC
        cases hq : isB ⟨xe, xf, xt, xl⟩ e f t
        · rw [hq] at hZ
          rw [hZ] at HIx
          have HM2 : Hid (∀ j, j < k + 1 → isB n[j]! e f t = false) := fun j hj => by
            by_cases q : j = k
            · subst q; rw [HX.out]; exact hq
            · exact HM.out j (by omega)
          clear hZ hq hx hI hc
          go_wp2_with fail
          refine (HIx.out _).mono ?_
          rintro e' w2 ⟨rfl, hb2⟩
          have HB2 := Lib.hid (bcall HB.out hb2 HB.out.size)
          clear hb2 e0 e1 e2 e3
          go_wp2
          go_roundg (n.length - (k + 1))
          case measure => omega
          case rel => exact ⟨k + 1, by omega, by omega, by go_num, HM2.out, HB2.out⟩
        · rw [hq] at hZ
          rw [hZ] at HIx
          have HRs : Hid (res = xl.length) := by
            rw [Hid, HZ.out, list_hit hlt HM.out (by rw [HX.out]; exact hq), HX.out]
          clear hZ hq hx hI hc
          go_wp2_with fail
          refine (HIx.out _).mono ?_
          rintro e' w2 ⟨rfl, hb2⟩
          have HB2 := Lib.hid (bcall HB.out hb2 HB.out.size)
          have c3 := (HC.out _ HB2.out).2.2.2
          clear hb2 e0 e1 e2 e3
          go_wp2
          go_returns
          exact ⟨by rw [HRs.out]; rfl, HB2.out⟩
      · obtain rfl : k = n.length := by omega
        have HRs : Hid (res = 0) := by rw [Hid, HZ.out, list_miss HM.out]; rfl
        go_wp2
        go_returns
        exact ⟨by rw [HRs.out]; rfl, HB.out⟩
def shortN (n : List BV) : Bool := decide (n.length ≤ 40 ∧ ∀ j, j < n.length → (n[j]!).l.length ≤ 60)
set_option maxRecDepth 100000 in
set_option maxHeartbeats 4000000 in
theorem ushort_any (n : List BV) (v : Value) (w : World) (h : IsBs w v n) : Calls Try.prog 7 #[v] w (Ret (.bool (shortN n)) w) := by
  obtain ⟨p, c, rfl, ho⟩ := h.opened
  have HO := Lib.hid ho
  clear h ho
  by_cases hl : 40 < n.length
  · have hlz : (40 : Int) < (n.length : Int) := by omega
    have HN : Hid (shortN n = false) := decide_eq_false fun q => by omega
    go_enter Try.func7, Try.ntmps7
    go_wp2
    go_returns
    exact ⟨ret_bool HN.out.symm, Below.refl _ _⟩
  · have hlz : ¬ (40 : Int) < (n.length : Int) := by omega
    go_enter Try.func7, Try.ntmps7
    go_wp2_with fail
    go_loopg [3] n.length (fun gg i wr => ∃ k : Nat, k ≤ n.length ∧ n.length - k ≤ gg ∧ i = .int .i64 (k : Int) ∧ Hid (∀ j, j < k → (n[j]!).l.length ≤ 60) ∧ wr = w)
    case atStart => exact ⟨0, Nat.zero_le _, by omega, rfl, fun j hj => absurd hj (Nat.not_lt_zero j), rfl⟩
    case round =>
      obtain ⟨k, hk, hg, rfl, HM, rfl⟩ := hrel
      by_cases hlt : k < n.length
      · have hkz : (k : Int) < (n.length : Int) := by omega
        obtain ⟨b, off, q, d, rfl, hI, hc⟩ := HO.out k hlt
        obtain ⟨e0, e1, e2, e3⟩ := hc _ (Below.refl _ _)
        generalize hx : (n[k]!).l.length = ln at *
        have HX := Lib.hid hx
        clear hx hI hc
        by_cases h60 : 60 < ln
        · have h6z : (60 : Int) < (ln : Int) := by omega
          have HN : Hid (shortN n = false) := decide_eq_false fun q => by have := q.2 k hlt; rw [HX.out] at this; omega
          go_wp2
          go_returns
          exact ⟨ret_bool HN.out.symm, Below.refl _ _⟩
        · have h6z : ¬ (60 : Int) < (ln : Int) := by omega
          have HM2 : Hid (∀ j, j < k + 1 → (n[j]!).l.length ≤ 60) := fun j hj => by
            by_cases q : j = k
            · subst q; rw [HX.out]; omega
            · exact HM.out j (by omega)
          go_wp2
          go_roundg (n.length - (k + 1))
          case measure => omega
          case rel => exact ⟨k + 1, by omega, by omega, by go_num, HM2.out, rfl⟩
      · obtain rfl : k = n.length := by omega
        have HN : Hid (shortN n = true) := decide_eq_true ⟨by omega, HM.out⟩
        go_wp2
        go_returns
        exact ⟨ret_bool HN.out.symm, Below.refl _ _⟩
section
attribute [local go_sem ↓] eqMsg neMsg
set_option maxRecDepth 100000 in
set_option maxHeartbeats 8000000 in
theorem usamem_any (xs ys : List MV) (va vb : Value) (w : World) (h1 : xs.length ≤ 900000) (h2 : ys.length ≤ 900000) (ha : RM.Is w va xs) (hb : RM.Is w vb ys) : Calls Try.prog 17 #[va, vb] w (Ret (.bool (decide (xs = ys))) w) := by
  obtain ⟨pa, ca, rfl, hoa⟩ := isOpenedU ha
  obtain ⟨pb, cb, rfl, hob⟩ := isOpenedU hb
  have HOa := Lib.hid hoa
  have HOb := Lib.hid hob
  clear ha hb hoa hob
  by_cases hl : xs.length = ys.length
  · have HL := Lib.hid hl
    have hlb : ((xs.length : Int) == (ys.length : Int)) = true := by simp; omega
    rw [← hl]
    clear hl hlb
    go_enter Try.func17, Try.ntmps17
    go_wp2_with fail
    go_loopg [5] xs.length (fun gg i wr => ∃ k : Nat, k ≤ xs.length ∧ xs.length - k ≤ gg ∧ i = .int .i64 (k : Int) ∧ Hid (∀ j, j < k → xs[j]! = ys[j]!) ∧ Hid (Below w.heap.size w wr))
    case atStart => exact ⟨0, Nat.zero_le _, by omega, rfl, fun j hj => absurd hj (Nat.not_lt_zero j), Below.refl _ _⟩
    case round =>
      obtain ⟨k, hk, hg, rfl, HM, HB⟩ := hrel
      by_cases hlt : k < xs.length
      · have hkz : (k : Int) < (xs.length : Int) := by omega
        obtain ⟨b1, o1, rfl, hb1, hr1⟩ := HOa.out k hlt
        obtain ⟨b2, o2, rfl, hb2, hr2⟩ := HOb.out k (by have := HL.out; omega)
        have hx := fun p : Nat => atM (hr1.below (below_drewN HB.out p) hb1) k hlt
        have hy := fun p : Nat => atM (hr2.below (below_drewN HB.out p) hb2) k (by have := HL.out; omega)
        have HM2 : Hid (xs[k]! = ys[k]! → ∀ j, j < k + 1 → xs[j]! = ys[j]!) := fun e j hj => by
          by_cases q : j = k
          · subst q; exact e
          · exact HM.out j (by omega)
        have HNo : Hid (xs[k]! ≠ ys[k]! → decide (xs = ys) = false) := fun e => decide_eq_false fun q => e (by rw [q])
        generalize xs[k]! = x at *
        generalize ys[k]! = y at *
        obtain ⟨x0, x1, x2, x3, x4, x5, x6, x7, x8, x9⟩ := x
        obtain ⟨y0, y1, y2, y3, y4, y5, y6, y7, y8, y9⟩ := y
        simp only at hx hy
        have X0 := fun p => (hx p).1; have X1 := fun p => (hx p).2.1; have X2 := fun p => (hx p).2.2.1; have X3 := fun p => (hx p).2.2.2.1; have X4 := fun p => (hx p).2.2.2.2.1; have X5 := fun p => (hx p).2.2.2.2.2.1; have X6 := fun p => (hx p).2.2.2.2.2.2.1; have X7 := fun p => (hx p).2.2.2.2.2.2.2.1; have X8 := fun p => (hx p).2.2.2.2.2.2.2.2.1; have X9 := fun p => (hx p).2.2.2.2.2.2.2.2.2
        have Y0 := fun p => (hy p).1; have Y1 := fun p => (hy p).2.1; have Y2 := fun p => (hy p).2.2.1; have Y3 := fun p => (hy p).2.2.2.1; have Y4 := fun p => (hy p).2.2.2.2.1; have Y5 := fun p => (hy p).2.2.2.2.2.1; have Y6 := fun p => (hy p).2.2.2.2.2.2.1; have Y7 := fun p => (hy p).2.2.2.2.2.2.2.1; have Y8 := fun p => (hy p).2.2.2.2.2.2.2.2.1; have Y9 := fun p => (hy p).2.2.2.2.2.2.2.2.2
        clear hx hy hr1 hr2
        have hq : eqM ⟨x0, x1, x2, x3, x4, x5, x6, x7, x8, x9⟩ ⟨y0, y1, y2, y3, y4, y5, y6, y7, y8, y9⟩ = decide ((⟨x0, x1, x2, x3, x4, x5, x6, x7, x8, x9⟩ : MV) = ⟨y0, y1, y2, y3, y4, y5, y6, y7, y8, y9⟩) := rfl
        by_cases hxy : (⟨x0, x1, x2, x3, x4, x5, x6, x7, x8, x9⟩ : MV) = ⟨y0, y1, y2, y3, y4, y5, y6, y7, y8, y9⟩
        · rw [decide_eq_true hxy] at hq
          have HM3 := Lib.hid (HM2.out hxy)
          clear hxy HM2 HNo
          go_wp2_with fail
          go_quiet (fail)
          go_wp2
          go_roundg (xs.length - (k + 1))
          case measure => omega
          case rel => exact ⟨k + 1, by omega, by omega, by go_num, HM3.out, below_drewN HB.out _⟩
        · rw [decide_eq_false hxy] at hq
          have HN2 := Lib.hid (HNo.out hxy)
          clear hxy HM2 HNo
          go_wp2_with fail
          go_quiet (fail)
          go_wp2
          go_returns
          exact ⟨ret_bool HN2.out.symm, below_drewN HB.out _⟩
      · obtain rfl : k = xs.length := by omega
        have HE : Hid (decide (xs = ys) = true) := decide_eq_true (List.ext_getElem HL.out fun i h1 h2 => by
          have := HM.out i h1
          rwa [getElem!_pos xs i h1, getElem!_pos ys i h2] at this)
        go_wp2
        go_returns
        exact ⟨ret_bool HE.out.symm, HB.out⟩
  · have HN : Hid (decide (xs = ys) = false) := decide_eq_false fun q => hl (by rw [q])
    have hlb : ((xs.length : Int) == (ys.length : Int)) = false := by simp; omega
    generalize xs.length = n1 at *
    generalize ys.length = n2 at *
    clear hl
    go_enter Try.func17, Try.ntmps17
    go_wp2
    go_returns
    exact ⟨ret_bool HN.out.symm, Below.refl _ _⟩
end
end Go.Proofs.Ytdgnblkoohakeaa
