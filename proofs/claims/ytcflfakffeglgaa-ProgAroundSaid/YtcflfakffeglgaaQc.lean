/- instructions (NV), rows of them (RC); right programs (rightC); the document's Right -/
import Derived.Test.YtcflfakffeglgaaBa
namespace Go.Proofs.Ytcflfakffeglgaa
open Go.RowKit
set_option linter.unusedVariables false
set_option linter.unusedSimpArgs false

structure NV where
  op : Int
  n : Int
instance : Inhabited NV := ⟨⟨0, 0⟩⟩
def NV.enc (x : NV) : List Value := [.int .i64 x.op, .int .i64 x.n]
abbrev NV.val (x : NV) : Value := .agg #[.int .i64 x.op, .int .i64 x.n]
def RC : RowKind NV where
  enc := NV.enc
  k := 2
  k0 := by decide
  len := fun _ => rfl
  one := by
    intro c u hu
    simp [NV.enc] at hu
    rcases hu with rfl | rfl <;> rfl
  tE := 33
  tS := 22
  zero := .agg #[.int .i64 0, .int .i64 0]
  bytes := 16
  info := by kernel_rfl
  under := Try.underlying22
  zlen := rfl
  byt := by decide
theorem atC7 {w : World} {b off : Nat} {xs : List NV} (h : RC.Row w b off xs) (j : Nat) (hj : j < xs.length) :
    w.cell? ⟨b, off + j * 2, none⟩ = some (.int .i64 xs[j]!.op) ∧ w.cell? ⟨b, off + j * 2 + 1, none⟩ = some (.int .i64 xs[j]!.n) :=
  ⟨h j hj 0 _ rfl, h j hj 1 _ rfl⟩
def NV.ok (len : Nat) (x : NV) : Prop := 1 ≤ x.op ∧ x.op ≤ 16 ∧ ((x.op = 14 ∨ x.op = 15) → 0 ≤ x.n ∧ x.n ≤ (len : Int)) ∧ ((x.op ≠ 1 ∧ x.op ≠ 14 ∧ x.op ≠ 15) → x.n = 0)
instance (len : Nat) (x : NV) : Decidable (x.ok len) := by unfold NV.ok; infer_instance
def rightC (p : List NV) : Bool := (p.all fun x => decide (x.ok p.length)) && decide (p.length ≤ 64)
theorem all_drop {p : List NV} {len k : Nat} (h : k < p.length) : ((p.drop k).all fun x => decide (x.ok len)) = (decide (p[k]!.ok len) && (p.drop (k + 1)).all fun x => decide (x.ok len)) := by
  rw [List.drop_eq_getElem_cons h, List.all_cons, getElem!_pos p k h]
set_option maxRecDepth 100000 in
set_option maxHeartbeats 8000000 in
theorem rright_row (xs : List NV) (b off cap : Nat) (w : World) (hl : xs.length ≤ 900000) (hb : b < w.heap.size) (hr : RC.Row w b off xs) :
    Calls Try.prog 12 #[.slice (some ⟨b, off, none⟩) xs.length cap] w (Ret (.bool (rightC xs)) w) := by
  have hrow : Hid (∀ (W : World), Below w.heap.size w W → ∀ j, j < xs.length → _) := fun W hW j hj => atC7 (hr.below hW hb) j hj
  have hstep := Lib.hid (fun j (hj : j < xs.length) => all_drop (len := xs.length) hj)
  have hst : (((xs.drop 0).all fun x => decide (x.ok xs.length)) && decide (xs.length ≤ 64)) = rightC xs := rfl
  have hend : ((xs.drop xs.length).all fun x => decide (x.ok xs.length)) = true := by rw [List.drop_length]; rfl
  have HSt := Lib.hid hst; have HEnd := Lib.hid hend
  clear hr hst hend
  generalize rightC xs = res at *
  generalize hn : xs.length = n at *
  have HN := Lib.hid hn
  clear hn
  go_enter Try.func12, Try.ntmps12
  go_wp2
  go_loopg [3] n (fun gg i wr => ∃ k : Nat, k ≤ n ∧ n - k ≤ gg ∧ i = .int .i64 k ∧ Hid (Below w.heap.size w wr) ∧ Hid ((((xs.drop k).all fun x => decide (x.ok n)) && decide (n ≤ 64)) = res))
  case atStart => exact ⟨0, Nat.zero_le _, by omega, rfl, (Below.refl _ _), HSt.out⟩
  case round =>
    obtain ⟨k, hkn, hg, rfl, HB, HC⟩ := hrel
    by_cases hlt : k < n
    · have hlz : (k : Int) < (n : Int) := by omega
      have hc := fun m => hrow.out (wr.drewN m) (below_drewN HB.out m) k hlt
      have hq := HC.out
      rw [hstep.out k hlt] at hq
      generalize xs[k]! = x at hc hq
      obtain ⟨op, nn⟩ := x
      have f0 := fun m => (hc m).1; have f1 := fun m => (hc m).2
      simp only at f0 f1
      have HBd := fun m => below_drewN HB.out m
      clear hc hrow hstep HC
      by_cases hok : NV.ok n ⟨op, nn⟩
      · rw [decide_eq_true hok, Bool.true_and] at hq
        have HQ := Lib.hid hq
        clear hq
        have h1 : 1 ≤ op := hok.1
        have h2 : op ≤ 16 := hok.2.1
        have h3 : (op = 14 ∨ op = 15) → 0 ≤ nn ∧ nn ≤ (n : Int) := hok.2.2.1
        have h4 : (op ≠ 1 ∧ op ≠ 14 ∧ op ≠ 15) → nn = 0 := hok.2.2.2
        clear hok
        by_cases g14 : op = 14
        · subst g14
          obtain ⟨k0, k1⟩ := h3 (by omega)
          clear h3 h4
          go_wp2_with fail
          go_quiet (fail)
          go_wp2
          go_roundg (n - (k + 1))
          case measure => omega
          case rel => exact ⟨k + 1, by omega, by omega, by go_num, HBd _, HQ.out⟩
        by_cases g15 : op = 15
        · subst g15
          obtain ⟨k0, k1⟩ := h3 (by omega)
          clear h3 h4 g14
          go_wp2_with fail
          go_quiet (fail)
          go_wp2
          go_roundg (n - (k + 1))
          case measure => omega
          case rel => exact ⟨k + 1, by omega, by omega, by go_num, HBd _, HQ.out⟩
        have b14 : (op == 14) = false := by simpa using g14
        have b15 : (op == 15) = false := by simpa using g15
        have c14 : (op != 14) = true := by simpa using g14
        have c15 : (op != 15) = true := by simpa using g15
        by_cases g1 : op = 1
        · subst g1
          clear h3 h4 g14 g15
          go_wp2_with fail
          go_quiet (fail)
          go_wp2
          go_roundg (n - (k + 1))
          case measure => omega
          case rel => exact ⟨k + 1, by omega, by omega, by go_num, HBd _, HQ.out⟩
        · have c1 : (op != 1) = true := by simpa using g1
          have h5 := h4 ⟨g1, g14, g15⟩
          subst h5
          clear h3 h4 g14 g15 g1
          go_wp2_with fail
          go_quiet (fail)
          go_wp2
          go_roundg (n - (k + 1))
          case measure => omega
          case rel => exact ⟨k + 1, by omega, by omega, by go_num, HBd _, HQ.out⟩
      · rw [decide_eq_false hok, Bool.false_and, Bool.false_and] at hq
        subst hq
        have hbad : op < 1 ∨ 16 < op ∨ ((op = 14 ∨ op = 15) ∧ (nn < 0 ∨ (n : Int) < nn)) ∨ ((op ≠ 1 ∧ op ≠ 14 ∧ op ≠ 15) ∧ nn ≠ 0) := by
          unfold NV.ok at hok
          simp only at hok
          omega
        clear hok
        by_cases z1 : op < 1
        · clear hbad
          go_wp2_with fail
          go_quiet (fail)
          go_wp2
          go_returns
          exact ⟨rfl, HBd _⟩
        by_cases z2 : op > 16
        · clear hbad
          go_wp2_with fail
          go_quiet (fail)
          go_wp2
          go_returns
          exact ⟨rfl, HBd _⟩
        by_cases g14 : op = 14
        · subst g14
          have hbad : nn < 0 ∨ (0 ≤ nn ∧ nn > (n : Int)) := by omega
          rcases hbad with hbad | ⟨hb1, hbad⟩
          all_goals
            go_wp2_with fail
            go_quiet (fail)
            go_wp2
            go_returns
            exact ⟨rfl, HBd _⟩
        by_cases g15 : op = 15
        · subst g15
          have hbad : nn < 0 ∨ (0 ≤ nn ∧ nn > (n : Int)) := by omega
          clear g14
          rcases hbad with hbad | ⟨hb1, hbad⟩
          all_goals
            go_wp2_with fail
            go_quiet (fail)
            go_wp2
            go_returns
            exact ⟨rfl, HBd _⟩
        have b14 : (op == 14) = false := by simpa using g14
        have b15 : (op == 15) = false := by simpa using g15
        have c14 : (op != 14) = true := by simpa using g14
        have c15 : (op != 15) = true := by simpa using g15
        have c1 : (op != 1) = true := by simp; omega
        have cn : (nn != 0) = true := by simp; omega
        clear hbad g14 g15
        go_wp2_with fail
        go_quiet (fail)
        go_wp2
        go_returns
        exact ⟨rfl, HBd _⟩
    · have hlz : ¬ (k : Int) < (n : Int) := by omega
      obtain rfl : k = n := by omega
      have hq := HC.out
      rw [HEnd.out, Bool.true_and] at hq
      clear HC hrow hstep
      by_cases h64 : k ≤ 64
      · have hz : (k : Int) ≤ 64 := by omega
        rw [decide_eq_true h64] at hq
        subst hq
        go_wp2
        go_returns
        exact ⟨rfl, HB.out⟩
      · have hz : ¬ (k : Int) ≤ 64 := by omega
        rw [decide_eq_false h64] at hq
        subst hq
        go_wp2
        go_returns
        exact ⟨by first | rfl | (apply ret_bool; simp; omega), HB.out⟩
set_option maxHeartbeats 2000000 in
theorem rright_nil (p : Option Addr) (cap : Nat) (w : World) : Calls Try.prog 12 #[.slice p 0 cap] w (Ret (.bool (rightC [])) w) := by
  have h : rightC [] = true := rfl
  rw [h]
  go_enter Try.func12, Try.ntmps12
  go_wp2
  refine wp_loop_rounds 1 ?_
  rw [rounds_succ]
  go_wp2
  go_returns
  exact ⟨rfl, Below.refl _ _⟩
theorem rright_any (xs : List NV) (v : Value) (w : World) (hl : xs.length ≤ 900000) (h : RC.Is w v xs) : Calls Try.prog 12 #[v] w (Ret (.bool (rightC xs)) w) := by
  rcases h with ⟨rfl, p, cap, rfl, _⟩ | ⟨_, b, off, cap, rfl, hb, hr⟩
  · exact rright_nil p cap w
  · exact rright_row xs b off cap w hl hb hr
end Go.Proofs.Ytcflfakffeglgaa
