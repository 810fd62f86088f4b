/- the document's: what is stale -/
import Derived.Test.YthhceggcdaljdaaGreatG21
import Derived.Test.YthhceggcdaljdaaGreatG22
import Derived.Test.YthhceggcdaljdaaGreatG02
import Derived.Test.YthhceggcdaljdaaGreatG01
import Derived.Laws.MakeOwn
import Derived.Laws.OwnMore
namespace Go.Proofs.YthhceggcdaljdaaGreat
open Go.RowKit
set_option linter.unusedVariables false
set_option linter.unusedSimpArgs false

set_option maxRecDepth 100000 in
set_option maxHeartbeats 16000000 in
theorem rstale_any (c : List SV) (v : Value) (w : World) (hs : SmallC 900000 c) (h : IsCl w v c) : Calls Tryz.prog 15 #[v] w (StaleR c w) := by
  have HR := Lib.hid (rrightC_any c v w hs h)
  obtain ⟨xs, hx0, hx1⟩ := h
  have HAr := Lib.hid hx1
  obtain ⟨p, k0, rfl, ho⟩ := isOpenedD hx0
  have HO := Lib.hid ho
  have hxn : xs.length = c.length := hx1.1
  have hsz : c.length ≤ 900000 := hs.1
  rw [hxn] at HO HR ⊢
  have HF : Hid (∀ u W, OwnTT w.heap.size W u (staleL c) → Below w.heap.size w W → StaleR c w (.returned u) W) := fun u W h1 h2 => ⟨u, rfl, h1, h2⟩
  have HN : Hid (rightSl c = false → staleL c = []) := fun h => by unfold staleL; rw [if_neg (by rw [h]; decide)]
  have HY : Hid (rightSl c = true → staleL c = staleK c c.length) := fun h => by unfold staleL staleK; rw [if_pos h, List.take_length]
  generalize StaleR c w = R at *
  generalize staleL c = sl at *
  generalize rightSl c = rc at *
  clear hx0 hx1 ho hxn hs
  go_enter Tryz.func15, Tryz.ntmps15
  go_wp2_with fail
  refine (HR.out).mono ?_
  rintro e w1 ⟨rfl, hb1⟩
  have HB1 := Lib.hid hb1
  clear hb1 HR
  cases rc
  · have HX := Lib.hid (HF.out (.slice none 0 0) w1 (by rw [HN.out (by trivial)]; exact OwnTT.nil _ _) HB1.out)
    clear HN HY HF
    by_cases h0 : 0 < c.length
    · have hz : (0 : Int) < (c.length : Int) := by omega
      go_wp2
      refine wp_loop_rounds 1 ?_
      rw [rounds_succ]
      go_wp2
      first | exact HX.out | (go_returns; exact HX.out)
    · have hz : ¬ (0 : Int) < (c.length : Int) := by omega
      go_wp2
      refine wp_loop_rounds 1 ?_
      rw [rounds_succ]
      go_wp2
      first | exact HX.out | (go_returns; exact HX.out)
  · have HSl := Lib.hid (HY.out (by trivial))
    clear HN HY
    go_wp2
    go_loopg [3, 5] c.length (fun gg u i wr => ∃ k : Nat, k ≤ c.length ∧ c.length - k ≤ gg ∧ i = .int .i64 (k : Int) ∧ Hid (Below w.heap.size w wr) ∧ Hid (OwnTT w.heap.size wr u (staleK c k)))
    case atStart => exact ⟨0, Nat.zero_le _, by omega, rfl, HB1.out, OwnTT.nil _ _⟩
    case round =>
      obtain ⟨k, hkn, hg, rfl, HB, HU⟩ := hrel
      by_cases hlt : k < c.length
      · have hlz : (k : Int) < (c.length : Int) := by omega
        obtain ⟨b, off, rfl, hb, hrow⟩ := HO.out k hlt
        have hxl : xs.length = c.length := HAr.out.1
        obtain ⟨e0, e1, e2, e3, e4, e5, e6, e7, e8, e9⟩ := atSl (hrow.below HB.out hb) k (by omega)
        have hxk := HAr.out.2 k hlt
        have HYe := Lib.hid (fun h => staleK_yes (c := c) (k := k) hlt h)
        have HNe := Lib.hid (fun h => staleK_no (c := c) (k := k) hlt h)
        rw [← hxk.t, ← hxk.d] at HYe
        rw [← hxk.d] at HNe
        have HKl := Lib.hid (staleK_len c k)
        generalize xs[k]! = x at *
        obtain ⟨⟨td, t0, t1, t2, t3⟩, p0, n0, c0, p1, n1, c1, p2, n2, c2, xd, xf⟩ := x
        dsimp only at e0 e1 e2 e3 e4 e5 e6 e7 e8 e9 HYe HNe
        clear hxk hrow hxl
        have HBw := HB
        have HO1 := HU
        have hz2 : w.heap.size ≤ wr.heap.size := HB.out.size
        have hlen : (staleK c k).length ≤ 2000000000000 := by have := HKl.out; omega
        clear HB HU e5 e6 e7 e9
        cases xd
        · have HK := Lib.hid (HNe.out rfl)
          clear HYe HNe
          go_wp2
          go_roundg (c.length - (k + 1))
          case measure => omega
          case rel => exact ⟨k + 1, by omega, by omega, by go_num, HBw.out, by rw [HK.out]; exact HO1.out⟩
        · have HK := Lib.hid (HYe.out rfl)
          clear HYe HNe
          go_wp2_with (at_builtin; refine OwnTT.push (y := ⟨td, t0, t1, t2, t3⟩) HO1.out HBw.out hz2 rfl _ _ rfl rfl _ rfl hlen ?_; intro v2 w2 hO2 hB2 hz3)
          rw [← HK.out] at hO2
          have HO2 := Lib.hid hO2; have HB2 := Lib.hid hB2
          go_roundg (c.length - (k + 1))
          case measure => omega
          case rel => exact ⟨k + 1, by omega, by omega, by go_num, HB2.out, HO2.out⟩
      · obtain rfl : k = c.length := by omega
        have hlz : ¬ (c.length : Int) < (c.length : Int) := by omega
        have HX := Lib.hid (HF.out u3 wr (by rw [HSl.out]; exact HU.out) HB.out)
        go_wp2
        first | exact HX.out | (go_returns; exact HX.out)
end Go.Proofs.YthhceggcdaljdaaGreat
/- numbers of 64 bits; instructions (NV), rows of them (RC) -/
namespace Go.Proofs.YthhceggcdaljdaaGreat
open Go.RowKit
set_option linter.unusedVariables false
set_option linter.unusedSimpArgs false

/-- it has room in 64 bits -/
def inR (x : Int) : Prop := -9223372036854775808 ≤ x ∧ x ≤ 9223372036854775807
instance (x : Int) : Decidable (inR x) := by unfold inR; infer_instance
structure NV where
  op : Int
  n : Int
instance : Inhabited NV := ⟨⟨0, 0⟩⟩
def NV.enc (x : NV) : List Value := [.int .i64 x.op, .int .i64 x.n]
abbrev NV.val (x : NV) : Value := .agg #[.int .i64 x.op, .int .i64 x.n]
def RC : RowKind NV where
  enc := NV.enc
  k := 2
  k0 := by decide
  len := fun _ => rfl
  one := by
    intro c u hu
    simp [NV.enc] at hu
    rcases hu with rfl | rfl <;> rfl
  tE := 228
  tS := 45
  zero := .agg #[.int .i64 0, .int .i64 0]
  bytes := 16
  info := by kernel_rfl
  under := Tryz.underlying45
  zlen := rfl
  byt := by decide
theorem atC7 {w : World} {b off : Nat} {xs : List NV} (h : RC.Row w b off xs) (j : Nat) (hj : j < xs.length) :
    w.cell? ⟨b, off + j * 2, none⟩ = some (.int .i64 xs[j]!.op) ∧ w.cell? ⟨b, off + j * 2 + 1, none⟩ = some (.int .i64 xs[j]!.n) :=
  ⟨h j hj 0 _ rfl, h j hj 1 _ rfl⟩
def NV.ok (len : Nat) (x : NV) : Prop := 1 ≤ x.op ∧ x.op ≤ 16 ∧ ((x.op = 14 ∨ x.op = 15) → 0 ≤ x.n ∧ x.n ≤ (len : Int)) ∧ ((x.op ≠ 1 ∧ x.op ≠ 14 ∧ x.op ≠ 15) → x.n = 0)
instance (len : Nat) (x : NV) : Decidable (x.ok len) := by unfold NV.ok; infer_instance
end Go.Proofs.YthhceggcdaljdaaGreat
/- what an operation on two numbers gives (ofN), and the document's Of, sum, product, one -/
namespace Go.Proofs.YthhceggcdaljdaaGreat
open Go.RowKit
set_option linter.unusedVariables false
set_option linter.unusedSimpArgs false

/-- a number that has room, or none -/
def roomN (x : Int) : Int × Int := if inR x then (x, 0) else (0, 2)
def ofN (op a b : Int) : Int × Int :=
  if op = 4 then roomN (a + b) else if op = 5 then roomN (a - b) else if op = 6 then roomN (a * b)
  else if op = 7 then (if b = 0 then (0, 3) else roomN (a.tdiv b))
  else if op = 8 then (if b = 0 then (0, 3) else (a.tmod b, 0))
  else if op = 9 then (if a < b then 1 else 0, 0)
  else if op = 10 then (if a = b then 1 else 0, 0)
  else (0, 0)
theorem wrap_in {x : Int} (h : inR x) : wrap64 x = x := by
  unfold inR at h
  unfold wrap64
  omega
theorem wrap_range (x : Int) : inR (wrap64 x) := by
  unfold inR
  unfold wrap64
  omega
theorem wrap_mod (x : Int) : ∃ k : Int, wrap64 x = x + k * 18446744073709551616 := by
  refine ⟨(wrap64 x - x) / 18446744073709551616, ?_⟩
  unfold wrap64
  omega
/-- the test by which the product is told to have had room -/
theorem prod_test {a b : Int} (ha : inR a) (hb : inR b) (h0 : b ≠ 0) : (wrap64 (a * b)).tdiv b = a ↔ inR (a * b) := by
  constructor
  · intro h
    have h1 := Int.mul_tdiv_add_tmod (wrap64 (a * b)) b
    rw [h] at h1
    obtain ⟨k, hk⟩ := wrap_mod (a * b)
    have h2 := Int.natAbs_tmod (wrap64 (a * b)) b
    have h3 := Nat.mod_lt (wrap64 (a * b)).natAbs (show 0 < b.natAbs by omega)
    rw [← h2] at h3
    clear h2
    have hw := wrap_range (a * b)
    rw [Int.mul_comm b a] at h1
    generalize (wrap64 (a * b)).tmod b = r at *
    generalize wrap64 (a * b) = p at *
    generalize a * b = q at *
    unfold inR at *
    omega
  · intro h
    rw [wrap_in h, Int.mul_tdiv_cancel _ h0]

theorem tdiv_in {x b : Int} (hx : inR x) (h0 : b ≠ 0) (h1 : ¬ (b = -1 ∧ x = -9223372036854775808)) : inR (x.tdiv b) := by
  by_cases hb : b = 1
  · subst hb; rw [Int.tdiv_one]; exact hx
  by_cases hb2 : b = -1
  · subst hb2
    have : x.tdiv (-1) = -x := by rw [Int.tdiv_neg, Int.tdiv_one]
    rw [this]
    unfold inR at *
    omega
  have h2 : (x.tdiv b).natAbs = x.natAbs / b.natAbs := Int.natAbs_tdiv x b
  have h3 : x.natAbs / b.natAbs ≤ x.natAbs / 2 := Nat.div_le_div_left (by omega) (by decide)
  rw [← h2] at h3
  unfold inR at *
  omega
def roomV (x : Int) : Value := .tuple #[.int .i64 (roomN x).1, .bool (decide ((roomN x).2 = 0))]
theorem roomV_in {x : Int} (h : inR x) : roomV x = .tuple #[.int .i64 x, .bool true] := by unfold roomV roomN; rw [if_pos h]; rfl
theorem roomV_out {x : Int} (h : ¬ inR x) : roomV x = .tuple #[.int .i64 0, .bool false] := by unfold roomV roomN; rw [if_neg h]; rfl
theorem ret2 {a a' : Int} {b : Bool} {v : Value} (hv : v = .tuple #[.int .i64 a', .bool b]) (h : a = a') : Ending.returned (.tuple #[.int .i64 a, .bool b]) = .returned v := by rw [hv, h]
end Go.Proofs.YthhceggcdaljdaaGreat
/- the document's Of on two numbers -/
namespace Go.Proofs.YthhceggcdaljdaaGreat
open Go.RowKit
set_option linter.unusedVariables false
set_option linter.unusedSimpArgs false

theorem roomN_in {x : Int} (h : inR x) : roomN x = (x, 0) := if_pos h
theorem roomN_out {x : Int} (h : ¬ inR x) : roomN x = (0, 2) := if_neg h
abbrev ofV2 (r : Int × Int) : Value := .tuple #[.int .i64 r.1, .int .i64 r.2]
theorem tmod_in {a b : Int} (ha : inR a) (h0 : b ≠ 0) : inR (a.tmod b) := by
  have h := Int.natAbs_tmod a b
  have h2 := Nat.mod_le a.natAbs b.natAbs
  have h3 : a.tmod b = 0 ∨ (0 ≤ a ∧ 0 ≤ a.tmod b) ∨ (a < 0 ∧ a.tmod b ≤ 0) := by
    rcases Int.le_total 0 a with q | q
    · exact .inr (.inl ⟨q, Int.tmod_nonneg b q⟩)
    · by_cases z : a = 0
      · subst z; exact .inl (Int.zero_tmod b)
      · refine .inr (.inr ⟨by omega, ?_⟩)
        have := Int.tmod_nonneg b (show 0 ≤ -a by omega)
        rw [Int.neg_tmod] at this
        omega
  rw [← h] at h2
  unfold inR at *
  omega
theorem ret2i {a a' b b' : Int} (h : a = a') (k : b = b') : Ending.returned (.tuple #[.int .i64 a, .int .i64 b]) = .returned (.tuple #[.int .i64 a', .int .i64 b']) := by rw [h, k]
end Go.Proofs.YthhceggcdaljdaaGreat
/- instructions (NV), rows of them (RC); right programs (rightC); the document's Right -/
namespace Go.Proofs.YthhceggcdaljdaaGreat
open Go.RowKit
set_option linter.unusedVariables false
set_option linter.unusedSimpArgs false

def rightC (p : List NV) : Bool := (p.all fun x => decide (x.ok p.length)) && decide (p.length ≤ 64)
theorem all_drop {p : List NV} {len k : Nat} (h : k < p.length) : ((p.drop k).all fun x => decide (x.ok len)) = (decide (p[k]!.ok len) && (p.drop (k + 1)).all fun x => decide (x.ok len)) := by
  rw [List.drop_eq_getElem_cons h, List.all_cons, getElem!_pos p k h]
set_option maxRecDepth 100000 in
set_option maxHeartbeats 8000000 in
theorem rright_row (xs : List NV) (b off cap : Nat) (w : World) (hl : xs.length ≤ 900000) (hb : b < w.heap.size) (hr : RC.Row w b off xs) :
    Calls Tryz.prog 144 #[.slice (some ⟨b, off, none⟩) xs.length cap] w (Ret (.bool (rightC xs)) w) := by
  have hrow : Hid (∀ (W : World), Below w.heap.size w W → ∀ j, j < xs.length → _) := fun W hW j hj => atC7 (hr.below hW hb) j hj
  have hstep := Lib.hid (fun j (hj : j < xs.length) => all_drop (len := xs.length) hj)
  have hst : (((xs.drop 0).all fun x => decide (x.ok xs.length)) && decide (xs.length ≤ 64)) = rightC xs := rfl
  have hend : ((xs.drop xs.length).all fun x => decide (x.ok xs.length)) = true := by rw [List.drop_length]; rfl
  have HSt := Lib.hid hst; have HEnd := Lib.hid hend
  clear hr hst hend
  generalize rightC xs = res at *
  generalize hn : xs.length = n at *
  have HN := Lib.hid hn
  clear hn
  go_enter Tryz.func144, Tryz.ntmps144
  go_wp2
  go_loopg [3] n (fun gg i wr => ∃ k : Nat, k ≤ n ∧ n - k ≤ gg ∧ i = .int .i64 k ∧ Hid (Below w.heap.size w wr) ∧ Hid ((((xs.drop k).all fun x => decide (x.ok n)) && decide (n ≤ 64)) = res))
  case atStart => exact ⟨0, Nat.zero_le _, by omega, rfl, (Below.refl _ _), HSt.out⟩
  case round =>
    obtain ⟨k, hkn, hg, rfl, HB, HC⟩ := hrel
    by_cases hlt : k < n
    · have hlz : (k : Int) < (n : Int) := by omega
      have hc := fun m => hrow.out (wr.drewN m) (below_drewN HB.out m) k hlt
      have hq := HC.out
      rw [hstep.out k hlt] at hq
      generalize xs[k]! = x at hc hq
      obtain ⟨op, nn⟩ := x
      have f0 := fun m => (hc m).1; have f1 := fun m => (hc m).2
      simp only at f0 f1
      have HBd := fun m => below_drewN HB.out m
      clear hc hrow hstep HC
      by_cases hok : NV.ok n ⟨op, nn⟩
      · rw [decide_eq_true hok, Bool.true_and] at hq
        have HQ := Lib.hid hq
        clear hq
        have h1 : 1 ≤ op := hok.1
        have h2 : op ≤ 16 := hok.2.1
        have h3 : (op = 14 ∨ op = 15) → 0 ≤ nn ∧ nn ≤ (n : Int) := hok.2.2.1
        have h4 : (op ≠ 1 ∧ op ≠ 14 ∧ op ≠ 15) → nn = 0 := hok.2.2.2
        clear hok
        by_cases g14 : op = 14
        · subst g14
          obtain ⟨k0, k1⟩ := h3 (by omega)
          clear h3 h4
          go_wp2_with fail
          go_quiet (fail)
          go_wp2
          go_roundg (n - (k + 1))
          case measure => omega
          case rel => exact ⟨k + 1, by omega, by omega, by go_num, HBd _, HQ.out⟩
        by_cases g15 : op = 15
        · subst g15
          obtain ⟨k0, k1⟩ := h3 (by omega)
          clear h3 h4 g14
          go_wp2_with fail
          go_quiet (fail)
          go_wp2
          go_roundg (n - (k + 1))
          case measure => omega
          case rel => exact ⟨k + 1, by omega, by omega, by go_num, HBd _, HQ.out⟩
        have b14 : (op == 14) = false := by simpa using g14
        have b15 : (op == 15) = false := by simpa using g15
        have c14 : (op != 14) = true := by simpa using g14
        have c15 : (op != 15) = true := by simpa using g15
        by_cases g1 : op = 1
        · subst g1
          clear h3 h4 g14 g15
          go_wp2_with fail
          go_quiet (fail)
          go_wp2
          go_roundg (n - (k + 1))
          case measure => omega
          case rel => exact ⟨k + 1, by omega, by omega, by go_num, HBd _, HQ.out⟩
        · have c1 : (op != 1) = true := by simpa using g1
          have h5 := h4 ⟨g1, g14, g15⟩
          subst h5
          clear h3 h4 g14 g15 g1
          go_wp2_with fail
          go_quiet (fail)
          go_wp2
          go_roundg (n - (k + 1))
          case measure => omega
          case rel => exact ⟨k + 1, by omega, by omega, by go_num, HBd _, HQ.out⟩
      · rw [decide_eq_false hok, Bool.false_and, Bool.false_and] at hq
        subst hq
        have hbad : op < 1 ∨ 16 < op ∨ ((op = 14 ∨ op = 15) ∧ (nn < 0 ∨ (n : Int) < nn)) ∨ ((op ≠ 1 ∧ op ≠ 14 ∧ op ≠ 15) ∧ nn ≠ 0) := by
          unfold NV.ok at hok
          simp only at hok
          omega
        clear hok
        by_cases z1 : op < 1
        · clear hbad
          go_wp2_with fail
          go_quiet (fail)
          go_wp2
          go_returns
          exact ⟨rfl, HBd _⟩
        by_cases z2 : op > 16
        · clear hbad
          go_wp2_with fail
          go_quiet (fail)
          go_wp2
          go_returns
          exact ⟨rfl, HBd _⟩
        by_cases g14 : op = 14
        · subst g14
          have hbad : nn < 0 ∨ (0 ≤ nn ∧ nn > (n : Int)) := by omega
          rcases hbad with hbad | ⟨hb1, hbad⟩
          all_goals
            go_wp2_with fail
            go_quiet (fail)
            go_wp2
            go_returns
            exact ⟨rfl, HBd _⟩
        by_cases g15 : op = 15
        · subst g15
          have hbad : nn < 0 ∨ (0 ≤ nn ∧ nn > (n : Int)) := by omega
          clear g14
          rcases hbad with hbad | ⟨hb1, hbad⟩
          all_goals
            go_wp2_with fail
            go_quiet (fail)
            go_wp2
            go_returns
            exact ⟨rfl, HBd _⟩
        have b14 : (op == 14) = false := by simpa using g14
        have b15 : (op == 15) = false := by simpa using g15
        have c14 : (op != 14) = true := by simpa using g14
        have c15 : (op != 15) = true := by simpa using g15
        have c1 : (op != 1) = true := by simp; omega
        have cn : (nn != 0) = true := by simp; omega
        clear hbad g14 g15
        go_wp2_with fail
        go_quiet (fail)
        go_wp2
        go_returns
        exact ⟨rfl, HBd _⟩
    · have hlz : ¬ (k : Int) < (n : Int) := by omega
      obtain rfl : k = n := by omega
      have hq := HC.out
      rw [HEnd.out, Bool.true_and] at hq
      clear HC hrow hstep
      by_cases h64 : k ≤ 64
      · have hz : (k : Int) ≤ 64 := by omega
        rw [decide_eq_true h64] at hq
        subst hq
        go_wp2
        go_returns
        exact ⟨rfl, HB.out⟩
      · have hz : ¬ (k : Int) ≤ 64 := by omega
        rw [decide_eq_false h64] at hq
        subst hq
        go_wp2
        go_returns
        exact ⟨by first | rfl | (apply ret_bool; simp; omega), HB.out⟩
set_option maxHeartbeats 2000000 in
theorem rright_nil (p : Option Addr) (cap : Nat) (w : World) : Calls Tryz.prog 144 #[.slice p 0 cap] w (Ret (.bool (rightC [])) w) := by
  have h : rightC [] = true := rfl
  rw [h]
  go_enter Tryz.func144, Tryz.ntmps144
  go_wp2
  refine wp_loop_rounds 1 ?_
  rw [rounds_succ]
  go_wp2
  go_returns
  exact ⟨rfl, Below.refl _ _⟩
theorem rright_any (xs : List NV) (v : Value) (w : World) (hl : xs.length ≤ 900000) (h : RC.Is w v xs) : Calls Tryz.prog 144 #[v] w (Ret (.bool (rightC xs)) w) := by
  rcases h with ⟨rfl, p, cap, rfl, _⟩ | ⟨_, b, off, cap, rfl, hb, hr⟩
  · exact rright_nil p cap w
  · exact rright_row xs b off cap w hl hb hr
end Go.Proofs.YthhceggcdaljdaaGreat
/- running a program: the plain steps (stepP, runP, runC); rows that the call makes itself: a part of one, two side by side -/
namespace Go.Proofs.YthhceggcdaljdaaGreat
open Go.RowKit
set_option linter.unusedVariables false
set_option linter.unusedSimpArgs false

def takesL : List Int := [0, 0, 0, 0, 2, 2, 2, 2, 2, 2, 2, 1, 2, 1, 0, 1, 2]
def givesL : List Int := [0, 1, 1, 1, 1, 1, 1, 1, 1, 1, 1, 2, 2, 0, 0, 0, 0]
def takesN (op : Int) : Nat := if 4 ≤ op ∧ op ≤ 10 ∨ op = 12 ∨ op = 16 then 2 else if op = 11 ∨ op = 13 ∨ op = 15 then 1 else 0
def givesN (op : Int) : Nat := if 1 ≤ op ∧ op ≤ 10 then 1 else if op = 11 ∨ op = 12 then 2 else 0
/-- one instruction: the error, the stack, what is emitted, the next place -/
def stepP (r : RV) (x : NV) (s : List Int) (out : List RV) (pc : Nat) : Int × List Int × List RV × Nat :=
  if s.length < takesN x.op ∨ 8 < s.length - takesN x.op + givesN x.op then (1, s, out, pc)
  else
    let n := s.length - takesN x.op
    let a := if takesN x.op = 0 then 0 else s[n]!
    let b := if takesN x.op = 2 then s[n + 1]! else 0
    if x.op = 1 then (0, s.take n ++ [x.n], out, pc)
    else if x.op = 2 then (0, s.take n ++ [r.k], out, pc)
    else if x.op = 3 then (0, s.take n ++ [r.v], out, pc)
    else if x.op = 11 then (0, s.take n ++ [a, a], out, pc)
    else if x.op = 12 then (0, s.take n ++ [b, a], out, pc)
    else if x.op = 13 then (0, s.take n, out, pc)
    else if x.op = 14 then (0, s.take n, out, x.n.toNat)
    else if x.op = 15 then (0, s.take n, out, if a = 0 then x.n.toNat else pc)
    else if x.op = 16 then (if out.length = 8 then 5 else 0, s.take n, out ++ [⟨a, b⟩], pc)
    else ((ofN x.op a b).2, s.take n ++ [(ofN x.op a b).1], out, pc)
def errL (r : RV) (bad : Int) : List RV × Int := ([⟨r.k, -9223372036854775808 + bad⟩], bad)
def runP (p : List NV) (r : RV) : Nat → List Int → List RV → Nat → List RV × Int
  | 0, _, out, pc => if p.length ≤ pc then (out, 0) else errL r 4
  | f + 1, s, out, pc => if p.length ≤ pc then (out, 0) else
      if (stepP r p[pc]! s out (pc + 1)).1 ≠ 0 then errL r (stepP r p[pc]! s out (pc + 1)).1
      else runP p r f (stepP r p[pc]! s out (pc + 1)).2.1 (stepP r p[pc]! s out (pc + 1)).2.2.1 (stepP r p[pc]! s out (pc + 1)).2.2.2
def runC (p : List NV) (r : RV) : List RV × Int := if rightC p = true then runP p r 256 [] [] 0 else ([], 0)
theorem runP_end {p : List NV} {r : RV} {f : Nat} {s : List Int} {out : List RV} {pc : Nat} (h : p.length ≤ pc) : runP p r f s out pc = (out, 0) := by
  cases f <;> (unfold runP; rw [if_pos h])
theorem runP_fuel {p : List NV} {r : RV} {s : List Int} {out : List RV} {pc : Nat} (h : pc < p.length) : runP p r 0 s out pc = errL r 4 := by
  unfold runP
  rw [if_neg (by omega)]
theorem runP_bad {p : List NV} {r : RV} {f : Nat} {s s' : List Int} {out out' : List RV} {pc pc' : Nat} {e : Int} (h : pc < p.length) (hs : stepP r p[pc]! s out (pc + 1) = (e, s', out', pc')) (he : e ≠ 0) : runP p r (f + 1) s out pc = errL r e := by
  unfold runP
  rw [if_neg (by omega), hs]
  exact if_pos he
theorem runP_go {p : List NV} {r : RV} {f : Nat} {s s' : List Int} {out out' : List RV} {pc pc' : Nat} (h : pc < p.length) (hs : stepP r p[pc]! s out (pc + 1) = (0, s', out', pc')) : runP p r (f + 1) s out pc = runP p r f s' out' pc' := by
  rw [runP, if_neg (by omega), hs]
  rfl

/-- rows of numbers of 64 bits -/
def R6 : RowKind Int where
  enc := fun x => [.int .i64 x]
  k := 1
  k0 := by decide
  len := fun _ => rfl
  one := by
    intro c u hu
    simp at hu
    subst hu
    rfl
  tE := 2
  tS := 270
  zero := .int .i64 0
  bytes := 8
  info := by kernel_rfl
  under := Tryz.underlying270
  zlen := rfl
  byt := by decide
theorem at6 {w : World} {b off : Nat} {xs : List Int} (h : R6.Row w b off xs) (j : Nat) (hj : j < xs.length) : w.cell? ⟨b, off + j, none⟩ = some (.int .i64 xs[j]!) := by
  have := h j hj 0 _ rfl
  rw [show off + j * R6.k + 0 = off + j from by show off + j * 1 + 0 = _; omega] at this
  exact this
namespace RowKind
theorem Row.litL {α : Type} [Inhabited α] {R : RowKind α} (w : World) (xs : List α) (t : TypeId) : R.Row (w.alloc (.cells (R.cells xs).toArray t)) w.heap.size 0 xs := by
  intro j hj i u hu
  have hi : i < R.k := by have := (List.getElem?_eq_some_iff.1 hu).1; rw [R.len] at this; exact this
  unfold World.cell?
  rw [heap_alloc_new]
  simp only [Nat.zero_add]
  rw [List.getElem?_toArray, R.cells_get xs j hj i hi]
  exact hu
theorem cells_take {α : Type} {R : RowKind α} : ∀ (xs : List α) (m : Nat), R.cells (xs.take m) = (R.cells xs).take (m * R.k)
  | [], m => by simp [cells]
  | x :: xs, 0 => by simp [cells]
  | x :: xs, m + 1 => by
    have := cells_take (R := R) xs m
    unfold cells at *
    rw [List.take_succ_cons, List.flatMap_cons, List.flatMap_cons, this, Nat.add_mul, Nat.one_mul, Nat.add_comm, ← R.len x, List.take_length_add_append]
/-- its first ones -/
theorem Own.part {α : Type} {R : RowKind α} {B : Nat} {w : World} {p : Option Addr} {n c : Nat} {xs : List α} (h : R.Own B w (.slice p n c) xs) (m : Nat) (hm : m ≤ n) : R.Own B w (.slice p m c) (xs.take m) := by
  obtain ⟨h1, h2⟩ := h
  rcases h2 with ⟨e, hn⟩ | ⟨g, cap, cur, e, hB, hg, hc, hmx, hs, ht⟩
  · simp only [Value.slice.injEq] at e
    obtain ⟨rfl, rfl, rfl⟩ := e
    obtain rfl : m = 0 := by omega
    rw [List.take_zero]
    exact Own.nil R B w
  · simp only [Value.slice.injEq] at e
    obtain ⟨rfl, rfl, rfl⟩ := e
    have hl : (xs.take m).length = m := by rw [List.length_take]; omega
    refine ⟨by rw [R.cells_len], .inr ⟨g, c, cur, by rw [hl], hB, hg, by omega, hmx, hs, ?_⟩⟩
    rw [hl, cells_take, ← ht, List.take_take]
    congr 1
    exact (Nat.min_eq_left (Nat.mul_le_mul_right _ (by omega))).symm
theorem Own.apart {α β : Type} {R : RowKind α} {R2 : RowKind β} {B : Nat} {w : World} {v u : Value} {xs : List α} {ys : List β} (h : R.Own B w v xs) (h2 : R2.Own B w u ys) (ht : R2.tE ≠ R.tE) : ∀ k, u.ownBlock = some k → v.ownBlock ≠ some k := by
  intro k hk e
  obtain ⟨_, ⟨rfl, _⟩ | ⟨g, cap, cur, rfl, _, hg, _⟩⟩ := h
  · cases e
  obtain ⟨_, ⟨rfl, _⟩ | ⟨g2, cap2, cur2, rfl, _, hg2, _⟩⟩ := h2
  · cases hk
  have e1 : g = k := Option.some.inj e
  have e2 : g2 = k := Option.some.inj hk
  subst e1
  subst e2
  rw [hg] at hg2
  simp only [Option.some.injEq, Obj.cells.injEq] at hg2
  exact ht hg2.2.1.symm
theorem Own.keepO {β : Type} {R : RowKind β} {B : Nat} {w w' : World} {v : Value} {xs : List β} (h : R.Own B w v xs) (hk : ∀ l, v.ownBlock = some l → w'.heap[l]? = w.heap[l]?) : R.Own B w' v xs := by
  obtain ⟨h1, h2⟩ := h
  refine ⟨h1, ?_⟩
  rcases h2 with h2 | ⟨g, cap, cur, e, hB, hg, rest⟩
  · exact .inl h2
  · exact .inr ⟨g, cap, cur, e, hB, (hk g (by rw [e]; rfl)).trans hg, rest⟩
/-- append of some that were just made; another row, of another type, stays -/
theorem Own.pushO {α β : Type} [Inhabited α] {R : RowKind α} {R2 : RowKind β} {ops : Array Oper} {rest : List Oper} {o : Oper} {a : Act} {Q : Exit → Act → World → Prop} {w0 w : World} {B : Nat} {v u : Value} {xs ys : List α} {zs : List β} (hown : R.Own B w v xs) (hoth : R2.Own B w u zs) (ht : R2.tE ≠ R.tE) (hb : Below B w0 w) (hB : B ≤ w.heap.size)
    (hgd : o.guard = none) (s x : Operand) (ho : o.op = .call { callee := .builtin .append, args := #[s, x], argTypes := #[R.tS, R.tS] }) (hs : a.eval s = v) (t : TypeId)
    (hx : a.eval x = .slice (some ⟨w.heap.size, 0, none⟩) ys.length ys.length) (hlen : xs.length + ys.length ≤ 900000)
    (h : ∀ v' w', R.Own B w' v' (xs ++ ys) → R2.Own B w' u zs → Below B w0 w' → wpList Tryz.prog ops Q rest (a.put o.dst v') w') :
    wpList Tryz.prog ops Q (o :: rest) a (w.alloc (.cells (R.cells ys).toArray t)) := by
  have hown' : R.Own B (w.alloc (.cells (R.cells ys).toArray t)) v xs := hown.alloc _
  have hoth' : R2.Own B (w.alloc (.cells (R.cells ys).toArray t)) u zs := hoth.alloc _
  refine Own.append (R := R) hgd s x ho hown' hs ys hx (Row.app (Row.litL w ys t)) (by omega) (by simp; omega) ?_
  intro v' w' h1 h2
  have hlt := hown'.lt
  have hap := hown'.apart hoth' ht
  refine h v' w' h1 (hoth'.keepO fun l hl => h2.block l ((hoth'.lt l hl).2) (fun e => hap l hl e.symm)) ?_
  exact (hb.alloc hB _).grown h2 (by simp; omega) (fun k hk => (hlt k hk).1)
end RowKind
end Go.Proofs.YthhceggcdaljdaaGreat
