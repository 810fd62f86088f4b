/- the program's: what is taken back and what is given -/
import Derived.Test.YthomddbekiknjaaGreatG28
import Derived.Test.YthomddbekiknjaaGreatG03
import Derived.Test.YthomddbekiknjaaGreatG12
import Derived.Test.YthomddbekiknjaaGreatG01
import Derived.Deep.Cut
import Derived.Deep.Light
namespace Go.Proofs.YthomddbekiknjaaGreat
open Go.RowKit
set_option linter.unusedVariables false
set_option linter.unusedSimpArgs false

def takeG (was is : List IV) (lazy : Bool) : List IV × List IV := if lazy = true then (thereI (minusI was is), thereI (minusI is was)) else if was = is then ([], []) else (thereI was, thereI is)
def ChangeR (p : List IV × List IV) (w : World) (e : Ending) (w' : World) : Prop := ∃ u v, e = .returned (.tuple #[u, v]) ∧ RI.Own w.heap.size w' u p.1 ∧ RI.Own w.heap.size w' v p.2 ∧ Below w.heap.size w w'
theorem minusI_len (a b : List IV) : (minusI a b).length ≤ a.length + b.length := by
  have := plusI_len a (b.map negI)
  rw [List.length_map] at this
  exact this
set_option maxRecDepth 100000 in
set_option maxHeartbeats 8000000 in
theorem pchanges_any (xs ys : List IV) (va vb : Value) (lazy : Bool) (w : World) (hl : xs.length ≤ 400000) (hm : ys.length ≤ 400000) (h64 : in64 xs) (k64 : in64 ys) (ca : capOk va) (cb : capOk vb) (ha : RI.Is w va xs) (hb : RI.Is w vb ys) :
    Calls Tryz.prog 49 #[va, vb, .bool lazy] w (ChangeR (takeG xs ys lazy) w) := by
  have HA := Lib.hid ha
  have HB := Lib.hid hb
  have HM1 := Lib.hid (fun W (hW : Below w.heap.size w W) => bminus_any xs ys va vb W hl hm k64 ca (ha.below hW) (hb.below hW))
  have HM2 := Lib.hid (fun W (hW : Below w.heap.size w W) => bminus_any ys xs vb va W hm hl h64 cb (hb.below hW) (ha.below hW))
  have HT1 := Lib.hid (fun W v h => bthere_any (minusI xs ys) v W (by have := minusI_len xs ys; omega) h)
  have HT2 := Lib.hid (fun W v h => bthere_any (minusI ys xs) v W (by have := minusI_len ys xs; omega) h)
  have HS := Lib.hid (fun W (hW : Below w.heap.size w W) => bsame_any xs ys va vb W (by omega) (by omega) (ha.below hW) (hb.below hW))
  have HT3 := Lib.hid (fun W (hW : Below w.heap.size w W) => bthere_any xs va W (by omega) (ha.below hW))
  have HT4 := Lib.hid (fun W (hW : Below w.heap.size w W) => bthere_any ys vb W (by omega) (hb.below hW))
  obtain ⟨p, c, rfl⟩ := ha.slice
  obtain ⟨q, d, rfl⟩ := hb.slice
  have HL : Hid (lazy = true → takeG xs ys lazy = (thereI (minusI xs ys), thereI (minusI ys xs))) := fun h => by unfold takeG; rw [if_pos h]
  have HE : Hid (lazy = false → xs = ys → takeG xs ys lazy = ([], [])) := fun h k => by unfold takeG; rw [if_neg (by rw [h]; decide), if_pos k]
  have HN : Hid (lazy = false → ¬ xs = ys → takeG xs ys lazy = (thereI xs, thereI ys)) := fun h k => by unfold takeG; rw [if_neg (by rw [h]; decide), if_neg k]
  have HF : Hid (∀ W u v a b, takeG xs ys lazy = (a, b) → RI.Own w.heap.size W u a → RI.Own w.heap.size W v b → Below w.heap.size w W → ChangeR (takeG xs ys lazy) w (.returned (.tuple #[u, v])) W) := fun W u v a b h h1 h2 h3 => by rw [h]; exact ⟨u, v, rfl, h1, h2, h3⟩
  generalize takeG xs ys lazy = tg at *
  generalize ChangeR tg w = R at *
  generalize minusI xs ys = m1 at *
  generalize minusI ys xs = m2 at *
  clear ha hb ca cb h64 k64 HA HB
  cases lazy
  · cases hs : decide (xs = ys)
    · rw [hs] at HS
      have hN := Lib.hid (HN.out rfl (of_decide_eq_false hs))
      clear hs HL HE HN HM1 HM2 HT1 HT2
      generalize xs.length = n1 at *
      generalize ys.length = n2 at *
      go_enter Tryz.func49, Tryz.ntmps49
      go_wp2_with fail
      refine (HS.out _ (Below.refl _ _)).mono ?_
      rintro e w1 ⟨rfl, hb1⟩
      have HB1 := Lib.hid hb1
      clear hb1 HS
      go_wp2_with fail
      refine (HT3.out _ HB1.out).mono ?_
      rintro e w2 ⟨u, rfl, hO2, hb2⟩
      have HB2 := Lib.hid (bcall HB1.out hb2 HB1.out.size)
      have HO2 := Lib.hid (hO2.mono HB1.out.size)
      clear hb2 hO2 HT3
      go_wp2_with fail
      refine (HT4.out _ HB2.out).mono ?_
      rintro e w3 ⟨v, rfl, hO3, hb3⟩
      have HX := Lib.hid (HF.out w3 u v _ _ hN.out (HO2.out.below hb3) (hO3.mono HB2.out.size) (bcall HB2.out hb3 HB2.out.size))
      clear hb3 hO3 HT4 HF
      go_wp2
      exact HX.out
    · rw [hs] at HS
      have hN := Lib.hid (HE.out rfl (of_decide_eq_true hs))
      clear hs HL HE HN HM1 HM2 HT1 HT2 HT3 HT4
      generalize xs.length = n1 at *
      generalize ys.length = n2 at *
      go_enter Tryz.func49, Tryz.ntmps49
      go_wp2_with fail
      refine (HS.out _ (Below.refl _ _)).mono ?_
      rintro e w1 ⟨rfl, hb1⟩
      have HX := Lib.hid (HF.out w1 _ _ _ _ hN.out (RowKind.Own.nil RI _ _) (RowKind.Own.nil RI _ _) hb1)
      clear hb1 HS HF
      go_wp2
      exact HX.out
  · have hN := Lib.hid (HL.out rfl)
    clear HL HE HN HS HT3 HT4
    generalize xs.length = n1 at *
    generalize ys.length = n2 at *
    go_enter Tryz.func49, Tryz.ntmps49
    go_wp2_with fail
    refine (HM1.out _ (Below.refl _ _)).mono ?_
    rintro e w1 ⟨u1, rfl, hI1, hc1, hb1⟩
    have HB1 := Lib.hid hb1
    have HTa := Lib.hid (HT1.out w1 u1 hI1)
    obtain ⟨pu, cu, rfl⟩ := hI1.slice
    clear hb1 hI1 hc1 HM1 HT1
    go_wp2_with fail
    refine (HTa.out).mono ?_
    rintro e w2 ⟨u, rfl, hO2, hb2⟩
    have HB2 := Lib.hid (bcall HB1.out hb2 HB1.out.size)
    have HO2 := Lib.hid (hO2.mono HB1.out.size)
    clear hb2 hO2 HTa
    go_wp2_with fail
    refine (HM2.out _ HB2.out).mono ?_
    rintro e w3 ⟨u3, rfl, hI3, hc3, hb3⟩
    have HB3 := Lib.hid (bcall HB2.out hb3 HB2.out.size)
    have HO3 := Lib.hid (HO2.out.below hb3)
    have HTb := Lib.hid (HT2.out w3 u3 hI3)
    obtain ⟨pv, cv, rfl⟩ := hI3.slice
    clear hb3 hI3 hc3 HM2 HT2
    go_wp2_with fail
    refine (HTb.out).mono ?_
    rintro e w4 ⟨v, rfl, hO4, hb4⟩
    have HX := Lib.hid (HF.out w4 u v _ _ hN.out (HO3.out.below hb4) (hO4.mono HB3.out.size) (bcall HB3.out hb4 HB3.out.size))
    clear hb4 hO4 HTb HF
    go_wp2
    exact HX.out
end Go.Proofs.YthomddbekiknjaaGreat
namespace Go.Proofs.YthomddbekiknjaaGreat
open Go.RowKit
set_option linter.unusedVariables false
attribute [local go_sem] ix4_0 ix4_1 ix4_2 ix4_3


def pairedB (d c0 c1 c2 c3 e x0 x1 x2 x3 : Int) : Bool := (d == e) && rightB d c0 c1 c2 c3 && rightB e x0 x1 x2 x3


set_option maxHeartbeats 1000000 in
theorem paired_any (d c0 c1 c2 c3 e x0 x1 x2 x3 : Int) (w : World) :
    Calls Tryz.prog 61 #[.agg #[.int .i64 d, .int .i64 c0, .int .i64 c1, .int .i64 c2, .int .i64 c3], .agg #[.int .i64 e, .int .i64 x0, .int .i64 x1, .int .i64 x2, .int .i64 x3]] w
      (Ret (.bool (pairedB d c0 c1 c2 c3 e x0 x1 x2 x3)) w) := by
  have hp : pairedB d c0 c1 c2 c3 e x0 x1 x2 x3 = ((d == e) && rightB d c0 c1 c2 c3 && rightB e x0 x1 x2 x3) := rfl
  rw [hp]; clear hp
  by_cases h : (d == e) = true
  · cases hr : rightB d c0 c1 c2 c3
    · go_enter Tryz.func61, Tryz.ntmps61
      go_wp2_with fail
      refine (right_any _ _ _ _ _ _).mono ?_
      rintro e w1 ⟨rfl, hb1⟩
      obtain ⟨hc1, hf1⟩ := bcell hb1
      have hB := bcall (B := w.heap.size) (a := w) (by go_grown) hb1 (by go_size)
      go_wp2
      go_returns
      exact ⟨by simp, by go_grown⟩
    · go_enter Tryz.func61, Tryz.ntmps61
      go_wp2_with fail
      refine (right_any _ _ _ _ _ _).mono ?_
      rintro e w1 ⟨rfl, hb1⟩
      obtain ⟨hc1, hf1⟩ := bcell hb1
      have hB := bcall (B := w.heap.size) (a := w) (by go_grown) hb1 (by go_size)
      go_wp2_with fail
      refine (right_any _ _ _ _ _ _).mono ?_
      rintro e w2 ⟨rfl, hb2⟩
      have hB2 := bcall hB hb2 hB.size
      go_wp2
      go_returns
      exact ⟨by simp [h], by go_grown⟩
  · have h' : (d == e) = false := by simpa using h
    rw [h']
    go_enter Tryz.func61, Tryz.ntmps61
    go_wp2
    go_returns
    exact ⟨by simp, by go_grown⟩
end Go.Proofs.YthomddbekiknjaaGreat
namespace Go.Proofs.YthomddbekiknjaaGreat
open Go.RowKit
set_option linter.unusedVariables false
attribute [local go_sem] ix4_0 ix4_1 ix4_2 ix4_3

def leB (d c0 c1 c2 c3 e x0 x1 x2 x3 : Int) : Bool := pairedB d c0 c1 c2 c3 e x0 x1 x2 x3 && decide (c0 ≤ x0 ∧ c1 ≤ x1 ∧ c2 ≤ x2 ∧ c3 ≤ x3)

set_option maxHeartbeats 2000000 in
theorem le_any (d c0 c1 c2 c3 e x0 x1 x2 x3 : Int) (w : World) :
    Calls Tryz.prog 45 #[.agg #[.int .i64 d, .int .i64 c0, .int .i64 c1, .int .i64 c2, .int .i64 c3], .agg #[.int .i64 e, .int .i64 x0, .int .i64 x1, .int .i64 x2, .int .i64 x3]] w
      (Ret (.bool (leB d c0 c1 c2 c3 e x0 x1 x2 x3)) w) := by
  cases hp : pairedB d c0 c1 c2 c3 e x0 x1 x2 x3
  · have hl : leB d c0 c1 c2 c3 e x0 x1 x2 x3 = false := by simp [leB, hp]
    rw [hl]; clear hl
    go_enter Tryz.func45, Tryz.ntmps45
    go_wp2_with fail
    refine (paired_any _ _ _ _ _ _ _ _ _ _ _).mono ?_
    rintro e w1 ⟨rfl, hb1⟩
    obtain ⟨hc1, hf1⟩ := bcell hb1
    have hB := bcall (B := w.heap.size) (a := w) (by go_grown) hb1 (by go_size)
    go_wp2
    go_returns
    exact ⟨rfl, by go_grown⟩
  · go_enter Tryz.func45, Tryz.ntmps45
    go_wp2_with fail
    refine (paired_any _ _ _ _ _ _ _ _ _ _ _).mono ?_
    rintro e w1 ⟨rfl, hb1⟩
    obtain ⟨hc1, hf1⟩ := bcell hb1
    have hB := bcall (B := w.heap.size) (a := w) (by go_grown) hb1 (by go_size)
    go_wp2
    go_rounds 5
    all_goals (try go_wp2)
    all_goals go_returns
    all_goals refine ⟨ret_bool ?_, by go_grown⟩
    all_goals (clear hc1 hf1; have HP := Lib.hid hp; clear hp; simp only [leB, HP.out, Bool.true_and]; first | (apply Eq.symm; apply decide_eq_true; omega) | (apply Eq.symm; apply decide_eq_false; omega))

/-- five cells of a block that can be written, and what they hold -/
structure Own5 (w : World) (b : Nat) (v0 v1 v2 v3 v4 : Value) : Prop where
  l0 : w.cell? ⟨b, 0, none⟩ = some v0
  l1 : w.cell? ⟨b, 1, none⟩ = some v1
  l2 : w.cell? ⟨b, 2, none⟩ = some v2
  l3 : w.cell? ⟨b, 3, none⟩ = some v3
  l4 : w.cell? ⟨b, 4, none⟩ = some v4
  q0 : w.frozen? ⟨b, 0, none⟩ = false
  q1 : w.frozen? ⟨b, 1, none⟩ = false
  q2 : w.frozen? ⟨b, 2, none⟩ = false
  q3 : w.frozen? ⟨b, 3, none⟩ = false
  q4 : w.frozen? ⟨b, 4, none⟩ = false
theorem Own5.below {W w1 : World} {B b : Nat} {v0 v1 v2 v3 v4 : Value} (h : Own5 W b v0 v1 v2 v3 v4) (hb : Below B W w1) (hl : b < B) : Own5 w1 b v0 v1 v2 v3 v4 :=
  ⟨(hb.cell (p := ⟨b, 0, none⟩) hl).trans h.l0, (hb.cell (p := ⟨b, 1, none⟩) hl).trans h.l1, (hb.cell (p := ⟨b, 2, none⟩) hl).trans h.l2, (hb.cell (p := ⟨b, 3, none⟩) hl).trans h.l3, (hb.cell (p := ⟨b, 4, none⟩) hl).trans h.l4,
   (hb.frozen (p := ⟨b, 0, none⟩) hl).trans h.q0, (hb.frozen (p := ⟨b, 1, none⟩) hl).trans h.q1, (hb.frozen (p := ⟨b, 2, none⟩) hl).trans h.q2, (hb.frozen (p := ⟨b, 3, none⟩) hl).trans h.q3, (hb.frozen (p := ⟨b, 4, none⟩) hl).trans h.q4⟩
theorem Own5.new (w : World) (v0 v1 v2 v3 v4 : Value) (t : TypeId) : Own5 (w.alloc (.cells #[v0, v1, v2, v3, v4] t)) w.heap.size v0 v1 v2 v3 v4 := by
  constructor <;> simp [go_sem]
theorem Own5.alloc {w : World} {b : Nat} {v0 v1 v2 v3 v4 : Value} (h : Own5 w b v0 v1 v2 v3 v4) (o : Obj) (hl : b < w.heap.size) : Own5 (w.alloc o) b v0 v1 v2 v3 v4 :=
  h.below ((Below.refl w.heap.size w).alloc (Nat.le_refl _) o) hl
theorem quiet_left {P : Program} {f : FuncId} {args : Array Value} {w : World} {n : Nat} {v : Value}
    (h : Calls P f args (w.drewN n) fun e w' => e = .returned v ∧ w.drewN n = w') : Calls P f args (w.drewN n) fun e w'' => e = .returned v ∧ ∃ m, w'' = w.drewN m :=
  h.mono fun _ _ ⟨he, hm⟩ => ⟨he, n, hm.symm⟩
/-- a result's coordinate -/
def bc (ok join : Bool) (x y : Int) : Int := if ok then (if join then imax x y else imin x y) else 0
def gate (ok : Bool) (x : Int) : Int := if ok then x else 0
def bothV (join : Bool) (d c0 c1 c2 c3 e x0 x1 x2 x3 : Int) (ok : Bool) : Value :=
  .tuple #[.agg #[.int .i64 (gate ok d), .int .i64 (bc ok join c0 x0), .int .i64 (bc ok join c1 x1), .int .i64 (bc ok join c2 x2), .int .i64 (bc ok join c3 x3)], .bool ok]

end Go.Proofs.YthomddbekiknjaaGreat
namespace Go.Proofs.YthomddbekiknjaaGreat
open Go.RowKit
set_option linter.unusedVariables false
set_option linter.unusedSimpArgs false
attribute [local go_sem] ix4_0 ix4_1 ix4_2 ix4_3
attribute [local go_sem ↓] run_imax run_imin

def stepV (ok : Bool) (d c0 c1 c2 c3 : Int) : Value :=
  .tuple #[.agg #[.int .i64 (gate ok d), .int .i64 (gate ok c0), .int .i64 (gate ok c1), .int .i64 (gate ok c2), .int .i64 (gate ok c3)], .bool ok]
/-- of a right timestamp: its coordinates' numbers -/
theorem right_of {d c0 c1 c2 c3 : Int} (h : rightB d c0 c1 c2 c3 = true) : rightP d c0 c1 c2 c3 := of_decide_eq_true h
def enterB (d c0 c1 c2 c3 : Int) : Bool := rightB d c0 c1 c2 c3 && !(d == 4)
def leaveB (d c0 c1 c2 c3 : Int) : Bool := rightB d c0 c1 c2 c3 && !(d == 1)
/-- the number of the last coordinate -/
def lastOf (d c0 c1 c2 c3 : Int) : Int := if d = 1 then c0 else if d = 2 then c1 else if d = 3 then c2 else c3
def nextB (d c0 c1 c2 c3 : Int) : Bool := rightB d c0 c1 c2 c3 && !(lastOf d c0 c1 c2 c3 == greatestS d (d - 1))
def leftV (d c0 c1 c2 c3 : Int) : Value := stepV (leaveB d c0 c1 c2 c3) (d - 1) (if d = 1 then 0 else c0) (if d = 2 then 0 else c1) (if d = 3 then 0 else c2) (if d = 4 then 0 else c3)
def nextV (d c0 c1 c2 c3 : Int) : Value := stepV (nextB d c0 c1 c2 c3) d (if d = 1 then c0 + 1 else c0) (if d = 2 then c1 + 1 else c1) (if d = 3 then c2 + 1 else c2) (if d = 4 then c3 + 1 else c3)
end Go.Proofs.YthomddbekiknjaaGreat
namespace Go.Proofs.YthomddbekiknjaaGreat
open Go.RowKit
set_option linter.unusedVariables false
set_option linter.unusedSimpArgs false
attribute [local go_sem ↓] run_imax run_imin

def lexB (d c0 c1 c2 c3 e0 x0 x1 x2 x3 : Int) : Bool :=
  if 0 < imin d e0 ∧ c0 ≠ x0 then decide (c0 < x0) else if 1 < imin d e0 ∧ c1 ≠ x1 then decide (c1 < x1) else if 2 < imin d e0 ∧ c2 ≠ x2 then decide (c2 < x2) else if 3 < imin d e0 ∧ c3 ≠ x3 then decide (c3 < x3) else decide (d < e0)
def lessB (d c0 c1 c2 c3 e0 x0 x1 x2 x3 : Int) : Bool := rightB d c0 c1 c2 c3 && rightB e0 x0 x1 x2 x3 && lexB d c0 c1 c2 c3 e0 x0 x1 x2 x3
theorem imin_le (d e : Int) (h : d ≤ 4) : imin d e ≤ 4 := by unfold imin; split <;> omega

set_option maxHeartbeats 4000000 in
theorem less_any (d c0 c1 c2 c3 e0 x0 x1 x2 x3 : Int) (w : World) :
    Calls Tryz.prog 40 #[.agg #[.int .i64 d, .int .i64 c0, .int .i64 c1, .int .i64 c2, .int .i64 c3], .agg #[.int .i64 e0, .int .i64 x0, .int .i64 x1, .int .i64 x2, .int .i64 x3]] w (Ret (.bool (lessB d c0 c1 c2 c3 e0 x0 x1 x2 x3)) w) := by
  cases hp : rightB d c0 c1 c2 c3
  · have he : lessB d c0 c1 c2 c3 e0 x0 x1 x2 x3 = false := by simp [lessB, hp]
    rw [he]; clear he
    go_enter Tryz.func40, Tryz.ntmps40
    go_wp2_with fail
    refine (right_any _ _ _ _ _ _).mono ?_
    rintro e w1 ⟨rfl, hb1⟩
    have hz := hb1.size
    have hB := bcall (B := w.heap.size) (a := w) (by go_grown) hb1 (by go_size)
    have hP := ((Own5.new w (.int .i64 d) (.int .i64 c0) (.int .i64 c1) (.int .i64 c2) (.int .i64 c3) 25).alloc _ (by go_size)).below hb1 (by go_size)
    have hA := (Own5.new _ (.int .i64 e0) (.int .i64 x0) (.int .i64 x1) (.int .i64 x2) (.int .i64 x3) 25).below hb1 (by go_size)
    obtain ⟨p0, p1, p2, p3, p4, q0, q1, q2, q3, q4⟩ := hP
    obtain ⟨a0, a1, a2, a3, a4, b0, b1, b2, b3, b4⟩ := hA
    simp only [World.size_alloc] at *
    clear hb1
    go_wp2
    go_returns
    exact ⟨rfl, by repeat' (first | (with_reducible refine below_drewN ?_ _) | go_grown)⟩
  · cases hp2 : rightB e0 x0 x1 x2 x3
    · have he : lessB d c0 c1 c2 c3 e0 x0 x1 x2 x3 = false := by simp [lessB, hp2]
      rw [he]; clear he
      go_enter Tryz.func40, Tryz.ntmps40
      go_wp2_with fail
      refine (right_any _ _ _ _ _ _).mono ?_
      rintro e w1 ⟨rfl, hb1⟩
      have hz := hb1.size
      have hB := bcall (B := w.heap.size) (a := w) (by go_grown) hb1 (by go_size)
      have hP := ((Own5.new w (.int .i64 d) (.int .i64 c0) (.int .i64 c1) (.int .i64 c2) (.int .i64 c3) 25).alloc _ (by go_size)).below hb1 (by go_size)
      have hA := (Own5.new _ (.int .i64 e0) (.int .i64 x0) (.int .i64 x1) (.int .i64 x2) (.int .i64 x3) 25).below hb1 (by go_size)
      obtain ⟨p0, p1, p2, p3, p4, q0, q1, q2, q3, q4⟩ := hP
      obtain ⟨a0, a1, a2, a3, a4, b0, b1, b2, b3, b4⟩ := hA
      simp only [World.size_alloc] at *
      clear hb1
      go_wp2_with fail
      refine (right_any _ _ _ _ _ _).mono ?_
      rintro e w2 ⟨rfl, hb2⟩
      have hB2 := bcall hB hb2 hB.size
      have hP2 := (Own5.mk p0 p1 p2 p3 p4 q0 q1 q2 q3 q4).below hb2 (by omega)
      have hA2 := (Own5.mk a0 a1 a2 a3 a4 b0 b1 b2 b3 b4).below hb2 (by omega)
      clear p0 p1 p2 p3 p4 q0 q1 q2 q3 q4 a0 a1 a2 a3 a4 b0 b1 b2 b3 b4 hb2 hB hz
      obtain ⟨p0, p1, p2, p3, p4, q0, q1, q2, q3, q4⟩ := hP2
      obtain ⟨a0, a1, a2, a3, a4, b0, b1, b2, b3, b4⟩ := hA2
      go_wp2
      go_returns
      exact ⟨rfl, by repeat' (first | (with_reducible refine below_drewN ?_ _) | go_grown)⟩
    · have he : lessB d c0 c1 c2 c3 e0 x0 x1 x2 x3 = lexB d c0 c1 c2 c3 e0 x0 x1 x2 x3 := by simp [lessB, hp2, hp]
      rw [he]; clear he
      have hm : imin d e0 ≤ 4 := imin_le d e0 (right_of hp).2.1
      go_enter Tryz.func40, Tryz.ntmps40
      go_wp2_with fail
      refine (right_any _ _ _ _ _ _).mono ?_
      rintro e w1 ⟨rfl, hb1⟩
      have hz := hb1.size
      have hB := bcall (B := w.heap.size) (a := w) (by go_grown) hb1 (by go_size)
      have hP := ((Own5.new w (.int .i64 d) (.int .i64 c0) (.int .i64 c1) (.int .i64 c2) (.int .i64 c3) 25).alloc _ (by go_size)).below hb1 (by go_size)
      have hA := (Own5.new _ (.int .i64 e0) (.int .i64 x0) (.int .i64 x1) (.int .i64 x2) (.int .i64 x3) 25).below hb1 (by go_size)
      obtain ⟨p0, p1, p2, p3, p4, q0, q1, q2, q3, q4⟩ := hP
      obtain ⟨a0, a1, a2, a3, a4, b0, b1, b2, b3, b4⟩ := hA
      simp only [World.size_alloc] at *
      clear hb1
      go_wp2_with fail
      refine (right_any _ _ _ _ _ _).mono ?_
      rintro e w2 ⟨rfl, hb2⟩
      have hB2 := bcall hB hb2 hB.size
      have hP2 := (Own5.mk p0 p1 p2 p3 p4 q0 q1 q2 q3 q4).below hb2 (by omega)
      have hA2 := (Own5.mk a0 a1 a2 a3 a4 b0 b1 b2 b3 b4).below hb2 (by omega)
      clear p0 p1 p2 p3 p4 q0 q1 q2 q3 q4 a0 a1 a2 a3 a4 b0 b1 b2 b3 b4 hb2 hB hz
      obtain ⟨p0, p1, p2, p3, p4, q0, q1, q2, q3, q4⟩ := hP2
      obtain ⟨a0, a1, a2, a3, a4, b0, b1, b2, b3, b4⟩ := hA2
      go_wp2
      refine wp_loop_rounds 5 ?_
      by_cases hk0 : 0 < imin d e0
      · by_cases he0 : c0 = x0
        · have hn0 : (c0 != x0) = false := by simp [he0]
          have He0 := Lib.hid he0; clear he0
          rw [rounds_succ]; go_wp2
          go_quiet (fail)
          go_wp2
          by_cases hk1 : 1 < imin d e0
          · by_cases he1 : c1 = x1
            · have hn1 : (c1 != x1) = false := by simp [he1]
              have He1 := Lib.hid he1; clear he1
              rw [rounds_succ]; go_wp2
              go_quiet (fail)
              go_wp2
              by_cases hk2 : 2 < imin d e0
              · by_cases he2 : c2 = x2
                · have hn2 : (c2 != x2) = false := by simp [he2]
                  have He2 := Lib.hid he2; clear he2
                  rw [rounds_succ]; go_wp2
                  go_quiet (fail)
                  go_wp2
                  by_cases hk3 : 3 < imin d e0
                  · by_cases he3 : c3 = x3
                    · have hn3 : (c3 != x3) = false := by simp [he3]
                      have He3 := Lib.hid he3; clear he3
                      rw [rounds_succ]; go_wp2
                      go_quiet (fail)
                      go_wp2
                      rw [rounds_succ]; go_wp2
                      go_returns
                      exact ⟨ret_bool (by unfold lexB; rw [if_neg (fun h => h.2 (by simpa using hn0)), if_neg (fun h => h.2 (by simpa using hn1)), if_neg (fun h => h.2 (by simpa using hn2)), if_neg (fun h => h.2 (by simpa using hn3))]), by repeat' (first | (with_reducible refine below_drewN ?_ _) | go_grown)⟩
                    · have hn3 : (c3 != x3) = true := by simp [he3]
                      rw [rounds_succ]; go_wp2
                      go_quiet (fail)
                      go_wp2
                      go_quiet (fail)
                      go_wp2
                      go_returns
                      exact ⟨ret_bool (by unfold lexB; rw [if_neg (fun h => h.2 (by simpa using hn0)), if_neg (fun h => h.2 (by simpa using hn1)), if_neg (fun h => h.2 (by simpa using hn2)), if_pos ⟨hk3, by simpa using hn3⟩]), by repeat' (first | (with_reducible refine below_drewN ?_ _) | go_grown)⟩
                  · rw [rounds_succ]; go_wp2
                    go_returns
                    exact ⟨ret_bool (by unfold lexB; rw [if_neg (fun h => h.2 (by simpa using hn0)), if_neg (fun h => h.2 (by simpa using hn1)), if_neg (fun h => h.2 (by simpa using hn2)), if_neg (fun h => absurd h.1 (by omega))]), by repeat' (first | (with_reducible refine below_drewN ?_ _) | go_grown)⟩
                · have hn2 : (c2 != x2) = true := by simp [he2]
                  rw [rounds_succ]; go_wp2
                  go_quiet (fail)
                  go_wp2
                  go_quiet (fail)
                  go_wp2
                  go_returns
                  exact ⟨ret_bool (by unfold lexB; rw [if_neg (fun h => h.2 (by simpa using hn0)), if_neg (fun h => h.2 (by simpa using hn1)), if_pos ⟨hk2, by simpa using hn2⟩]), by repeat' (first | (with_reducible refine below_drewN ?_ _) | go_grown)⟩
              · rw [rounds_succ]; go_wp2
                go_returns
                exact ⟨ret_bool (by unfold lexB; rw [if_neg (fun h => h.2 (by simpa using hn0)), if_neg (fun h => h.2 (by simpa using hn1)), if_neg (fun h => absurd h.1 (by omega)), if_neg (fun h => absurd h.1 (by omega))]), by repeat' (first | (with_reducible refine below_drewN ?_ _) | go_grown)⟩
            · have hn1 : (c1 != x1) = true := by simp [he1]
              rw [rounds_succ]; go_wp2
              go_quiet (fail)
              go_wp2
              go_quiet (fail)
              go_wp2
              go_returns
              exact ⟨ret_bool (by unfold lexB; rw [if_neg (fun h => h.2 (by simpa using hn0)), if_pos ⟨hk1, by simpa using hn1⟩]), by repeat' (first | (with_reducible refine below_drewN ?_ _) | go_grown)⟩
          · rw [rounds_succ]; go_wp2
            go_returns
            exact ⟨ret_bool (by unfold lexB; rw [if_neg (fun h => h.2 (by simpa using hn0)), if_neg (fun h => absurd h.1 (by omega)), if_neg (fun h => absurd h.1 (by omega)), if_neg (fun h => absurd h.1 (by omega))]), by repeat' (first | (with_reducible refine below_drewN ?_ _) | go_grown)⟩
        · have hn0 : (c0 != x0) = true := by simp [he0]
          rw [rounds_succ]; go_wp2
          go_quiet (fail)
          go_wp2
          go_quiet (fail)
          go_wp2
          go_returns
          exact ⟨ret_bool (by unfold lexB; rw [if_pos ⟨hk0, by simpa using hn0⟩]), by repeat' (first | (with_reducible refine below_drewN ?_ _) | go_grown)⟩
      · rw [rounds_succ]; go_wp2
        go_returns
        exact ⟨ret_bool (by unfold lexB; rw [if_neg (fun h => absurd h.1 (by omega)), if_neg (fun h => absurd h.1 (by omega)), if_neg (fun h => absurd h.1 (by omega)), if_neg (fun h => absurd h.1 (by omega))]), by repeat' (first | (with_reducible refine below_drewN ?_ _) | go_grown)⟩
end Go.Proofs.YthomddbekiknjaaGreat
namespace Go.Proofs.YthomddbekiknjaaGreat
open Go.RowKit
set_option linter.unusedVariables false
set_option linter.unusedSimpArgs false
attribute [local go_sem] ix4_0 ix4_1 ix4_2 ix4_3

/-- a step's numbers -/
structure HV where
  f : Int
  k : Int
  t : Int
  a0 : Int
  a1 : Int
  a2 : Int
  a3 : Int
  b0 : Int
  b1 : Int
  b2 : Int
  b3 : Int
abbrev HV.val (h : HV) : Value := .agg #[.int .i64 h.f, .int .i64 h.k, .int .i64 h.t, .int .i64 h.a0, .int .i64 h.a1, .int .i64 h.a2, .int .i64 h.a3, .int .i64 h.b0, .int .i64 h.b1, .int .i64 h.b2, .int .i64 h.b3]
/-- a timestamp's numbers -/
structure TV where
  d : Int
  c0 : Int
  c1 : Int
  c2 : Int
  c3 : Int
abbrev TV.val (t : TV) : Value := .agg #[.int .i64 t.d, .int .i64 t.c0, .int .i64 t.c1, .int .i64 t.c2, .int .i64 t.c3]
def HV.zero : HV := ⟨0, 0, 0, 0, 0, 0, 0, 0, 0, 0, 0⟩
def TV.zero : TV := ⟨0, 0, 0, 0, 0⟩

def fitsP (l0 l1 l2 l3 n : Int) : Prop := (0 ≤ l0 ∧ l0 ≤ 1048576 ∧ (0 < n ∨ l0 = 0)) ∧ (0 ≤ l1 ∧ l1 ≤ 1048576 ∧ (1 < n ∨ l1 = 0)) ∧ (0 ≤ l2 ∧ l2 ≤ 1048576 ∧ (2 < n ∨ l2 = 0)) ∧ (0 ≤ l3 ∧ l3 ≤ 1048576 ∧ (3 < n ∨ l3 = 0))
instance (l0 l1 l2 l3 n : Int) : Decidable (fitsP l0 l1 l2 l3 n) := by unfold fitsP; infer_instance
def fitsB (l0 l1 l2 l3 n : Int) : Bool := decide (fitsP l0 l1 l2 l3 n)

def HV.add (h : HV) (i : Int) : Int := if i = 0 then h.a0 else if i = 1 then h.a1 else if i = 2 then h.a2 else h.a3
def HV.tl (h : HV) (i : Int) : Int := if i = 0 then h.b0 else if i = 1 then h.b1 else if i = 2 then h.b2 else h.b3
/-- what stands at a place of what a step gives -/
def HV.at (h : HV) (i : Int) : Int := if i < h.k then h.add i else h.tl (i - h.k)

end Go.Proofs.YthomddbekiknjaaGreat
