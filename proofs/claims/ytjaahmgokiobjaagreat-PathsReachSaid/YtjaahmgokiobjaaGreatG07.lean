/- parts of a step as rows; the document's Parts -/
import Derived.Test.YtjaahmgokiobjaaGreatG02
import Derived.Test.YtjaahmgokiobjaaGreatG06
import Derived.Laws.MakeOwn
namespace Go.Proofs.YtjaahmgokiobjaaGreat
open Go.RowKit
set_option linter.unusedVariables false
set_option linter.unusedSimpArgs false

structure PV where
  o : Int
  x : Int
instance : Inhabited PV := ⟨⟨0, 0⟩⟩
def PV.enc (p : PV) : List Value := [.int .i64 p.o, .int .i64 p.x]
abbrev PV.val (p : PV) : Value := .agg #[.int .i64 p.o, .int .i64 p.x]
def RP : RowKind PV where
  enc := PV.enc
  k := 2
  k0 := by decide
  len := fun _ => rfl
  one := by
    intro c u hu
    simp [PV.enc] at hu
    rcases hu with rfl | rfl <;> rfl
  tE := 87
  tS := 81
  zero := .agg #[.int .i64 0, .int .i64 0]
  bytes := 16
  info := by kernel_rfl
  under := Tryz.underlying81
  zlen := rfl
  byt := by decide
def keptP (h : HV) : List PV := [(⟨0, h.a0⟩ : PV), ⟨1, h.a1⟩, ⟨2, h.a2⟩, ⟨3, h.a3⟩].take (min 4 h.k).toNat
def tailP (h : HV) : List PV := [(⟨-1, h.b0⟩ : PV), ⟨-1, h.b1⟩, ⟨-1, h.b2⟩, ⟨-1, h.b3⟩].take (min 4 h.t).toNat
def partsP (h : HV) : List PV := keptP h ++ tailP h
/-- a row of parts and whether they are a step's -/
def PartsR (h : HV) (w : World) (e : Ending) (w' : World) : Prop :=
  ∃ v, e = .returned (.tuple #[v, .bool h.rightB]) ∧ RP.Own w.heap.size w' v (if h.rightB = true then partsP h else []) ∧ Below w.heap.size w w'
def okN (l0 l1 l2 l3 n j : Int) : Prop := (0 < j → 0 ≤ l0 ∧ l0 ≤ 1048576 ∧ (0 < n ∨ l0 = 0)) ∧ (1 < j → 0 ≤ l1 ∧ l1 ≤ 1048576 ∧ (1 < n ∨ l1 = 0)) ∧ (2 < j → 0 ≤ l2 ∧ l2 ≤ 1048576 ∧ (2 < n ∨ l2 = 0)) ∧ (3 < j → 0 ≤ l3 ∧ l3 ≤ 1048576 ∧ (3 < n ∨ l3 = 0))
theorem okN_end {l0 l1 l2 l3 n : Int} (h : okN l0 l1 l2 l3 n 4) : fitsP l0 l1 l2 l3 n := by unfold okN at h; unfold fitsP; omega
theorem rowP_push {P : List PV} {out : List PV} (L : List PV) (j k : Int) (p : PV) (h0 : 0 ≤ j) (hj : j < k) (hl : L[j.toNat]? = some p) (ho : out = P ++ L.take (min j k).toNat) : Hid (out ++ [p] = P ++ L.take (min (j + 1) k).toNat) := by
  show _ = _
  have e1 : min j k = j := by omega
  have e2 : min (j + 1) k = j + 1 := by omega
  have e3 : (j + 1).toNat = j.toNat + 1 := by omega
  rw [ho, e1, e2, e3, List.take_add_one, hl]
  simp
theorem rowP_skip {P : List PV} {out : List PV} (L : List PV) (j k : Int) (hj : k ≤ j) (ho : out = P ++ L.take (min j k).toNat) : Hid (out = P ++ L.take (min (j + 1) k).toNat) := by
  show _ = _
  have e1 : min j k = k := by omega
  have e2 : min (j + 1) k = k := by omega
  rw [ho, e1, e2]
theorem rowP_len {P : List PV} {L : List PV} {n : Nat} {out : List PV} (h : out = P ++ L.take n) (hp : P.length ≤ 4) (hl : L.length ≤ 4) : out.length ≤ 900000 := by
  rw [h, List.length_append, List.length_take]; omega
set_option maxHeartbeats 8000000 in
theorem parts_no (h : HV) (hs : ¬ (h.shape ∧ 1 ≤ h.k + h.t ∧ h.k + h.t ≤ 4)) (h64 : -4611686018427387904 ≤ h.k + h.t ∨ True) (w : World) : Calls Tryz.prog 45 #[h.val] w (PartsR h w) := by
  have hr : h.rightB = false := HV.not_right (fun q => hs ⟨q.1, q.2.1, q.2.2.1⟩)
  unfold PartsR
  rw [hr]
  obtain ⟨f, k, t, a0, a1, a2, a3, b0, b1, b2, b3⟩ := h
  have hc : f < 1 ∨ (1 ≤ f ∧ 4 < f) ∨ (1 ≤ f ∧ f ≤ 4 ∧ k < 0) ∨ (1 ≤ f ∧ f ≤ 4 ∧ 0 ≤ k ∧ f < k) ∨ (1 ≤ f ∧ f ≤ 4 ∧ 0 ≤ k ∧ k ≤ f ∧ t < 0) ∨ (1 ≤ f ∧ f ≤ 4 ∧ 0 ≤ k ∧ k ≤ f ∧ 0 ≤ t ∧ 4 < t) ∨ (1 ≤ f ∧ f ≤ 4 ∧ 0 ≤ k ∧ k ≤ f ∧ 0 ≤ t ∧ t ≤ 4 ∧ k + t < 1) ∨ (1 ≤ f ∧ f ≤ 4 ∧ 0 ≤ k ∧ k ≤ f ∧ 0 ≤ t ∧ t ≤ 4 ∧ 1 ≤ k + t ∧ 4 < k + t) := by
    simp only [HV.shape] at hs; omega
  clear hs hr h64
  rcases hc with h1 | ⟨h1, h2⟩ | ⟨h1, h2, h3⟩ | ⟨h1, h2, h3, h4⟩ | ⟨h1, h2, h3, h4, h5⟩ | ⟨h1, h2, h3, h4, h5, h6⟩ | ⟨h1, h2, h3, h4, h5, h6, h7⟩ | ⟨h1, h2, h3, h4, h5, h6, h7, h8⟩
  all_goals
    go_enter Tryz.func45, Tryz.ntmps45
    go_wp2
    go_returns
    exact ⟨_, rfl, RowKind.Own.nil RP _ _, by go_grown⟩
set_option maxRecDepth 100000 in
set_option maxHeartbeats 8000000 in
theorem parts_yes (h : HV) (hs : h.shape ∧ 1 ≤ h.k + h.t ∧ h.k + h.t ≤ 4) (w : World) : Calls Tryz.prog 45 #[h.val] w (PartsR h w) := by
  have hFa : ¬ fitsP h.a0 h.a1 h.a2 h.a3 h.k → h.rightB = false := fun n => HV.not_right (fun q => n q.2.2.2.1)
  have hFb : ¬ fitsP h.b0 h.b1 h.b2 h.b3 h.t → h.rightB = false := fun n => HV.not_right (fun q => n q.2.2.2.2)
  have hT : fitsP h.a0 h.a1 h.a2 h.a3 h.k → fitsP h.b0 h.b1 h.b2 h.b3 h.t → h.rightB = true := fun p q => decide_eq_true ⟨hs.1, hs.2.1, hs.2.2, p, q⟩
  have hP : partsP h = keptP h ++ tailP h := rfl
  unfold PartsR
  have hN : h.rightB = false → (if h.rightB = true then partsP h else []) = [] := fun e => by rw [if_neg (by rw [e]; decide)]
  have hY : h.rightB = true → (if h.rightB = true then partsP h else []) = partsP h := fun e => if_pos e
  generalize (if h.rightB = true then partsP h else []) = res at *
  generalize partsP h = pp at *
  generalize h.rightB = rb at *
  unfold keptP tailP at hP
  obtain ⟨f, k, t, a0, a1, a2, a3, b0, b1, b2, b3⟩ := h
  obtain ⟨⟨s1, s2, s3, s4, s5, s6⟩, g1, g2⟩ := hs
  simp only at s1 s2 s3 s4 s5 s6 g1 g2 hFa hFb hT hP
  have HFa := Lib.hid hFa; have HFb := Lib.hid hFb; have HT := Lib.hid hT; have HP := Lib.hid hP; have HNn := Lib.hid hN; have HYy := Lib.hid hY
  clear hN hY hFa hFb hT hP
  have HX0 := Lib.hid (Boxed.new w #[.int .i64 f, .int .i64 k, .int .i64 t, .int .i64 a0, .int .i64 a1, .int .i64 a2, .int .i64 a3, .int .i64 b0, .int .i64 b1, .int .i64 b2, .int .i64 b3] 55)
  have HW : Hid (Below w.heap.size w (w.alloc (.cells #[.int .i64 f, .int .i64 k, .int .i64 t, .int .i64 a0, .int .i64 a1, .int .i64 a2, .int .i64 a3, .int .i64 b0, .int .i64 b1, .int .i64 b2, .int .i64 b3] 55))) := (Below.refl _ _).alloc (Nat.le_refl _) _
  have HBx : Hid (∀ W, Below (w.heap.size + 1) (w.alloc (.cells #[.int .i64 f, .int .i64 k, .int .i64 t, .int .i64 a0, .int .i64 a1, .int .i64 a2, .int .i64 a3, .int .i64 b0, .int .i64 b1, .int .i64 b2, .int .i64 b3] 55)) W → W.cell? ⟨w.heap.size, 0, none⟩ = some (.int .i64 f) ∧ W.cell? ⟨w.heap.size, 1, none⟩ = some (.int .i64 k) ∧ W.cell? ⟨w.heap.size, 2, none⟩ = some (.int .i64 t) ∧ W.cell? ⟨w.heap.size, 3, none⟩ = some (.int .i64 a0) ∧ W.cell? ⟨w.heap.size, 4, none⟩ = some (.int .i64 a1) ∧ W.cell? ⟨w.heap.size, 5, none⟩ = some (.int .i64 a2) ∧ W.cell? ⟨w.heap.size, 6, none⟩ = some (.int .i64 a3) ∧ W.cell? ⟨w.heap.size, 7, none⟩ = some (.int .i64 b0) ∧ W.cell? ⟨w.heap.size, 8, none⟩ = some (.int .i64 b1) ∧ W.cell? ⟨w.heap.size, 9, none⟩ = some (.int .i64 b2) ∧ W.cell? ⟨w.heap.size, 10, none⟩ = some (.int .i64 b3)) := fun W hW => by
    have q := HX0.out.below hW (by omega)
    exact ⟨q.cell 0, q.cell 1, q.cell 2, q.cell 3, q.cell 4, q.cell 5, q.cell 6, q.cell 7, q.cell 8, q.cell 9, q.cell 10⟩
  clear HX0
  go_enter Tryz.func45, Tryz.ntmps45
  go_wp2
  go_loopg [4, 5, 6] 4 (fun gg vl i x wr => ∃ (j : Int) (out : List PV), 0 ≤ j ∧ j ≤ 4 ∧ (4 - j).toNat ≤ gg ∧ i = .int .i64 j ∧ Hid (out = [] ++ ([(⟨0, a0⟩ : PV), ⟨1, a1⟩, ⟨2, a2⟩, ⟨3, a3⟩]).take (min j k).toNat) ∧ Hid (okN a0 a1 a2 a3 k j) ∧ RP.Own (w.heap.size + 1) wr vl out ∧ Below (w.heap.size + 1) (w.alloc (.cells #[.int .i64 f, .int .i64 k, .int .i64 t, .int .i64 a0, .int .i64 a1, .int .i64 a2, .int .i64 a3, .int .i64 b0, .int .i64 b1, .int .i64 b2, .int .i64 b3] 55)) wr)
  case atStart => exact ⟨0, [], by omega, by omega, by decide, rfl, by show _ = _; rw [show min 0 k = 0 by omega]; rfl, by show okN _ _ _ _ _ _; unfold okN; omega, RowKind.Own.nil RP _ _, Below.refl _ _⟩
  case round =>
    obtain ⟨j, out, hj0, hj4, hgg, rfl, HL, HK, hO, hB⟩ := hrel
    have HO := Lib.hid hO; have HB := Lib.hid hB
    have hz := Nat.le_of_lt (Nat.lt_of_lt_of_le (Nat.lt_succ_self w.heap.size) (by have := hB.size; simpa using this))
    have hz : w.heap.size + 1 ≤ wr.heap.size := by have := hB.size; simpa using this
    have hlen := rowP_len HL.out (by simp) (by simp)
    obtain ⟨c0, c1, c2, c3, c4, c5, c6, c7, c8, c9, c10⟩ := HBx.out wr hB
    clear hO hB
    have HX := HFa
    rcases (by omega : j = 0 ∨ j = 1 ∨ j = 2 ∨ j = 3 ∨ j = 4) with rfl | rfl | rfl | rfl | rfl
    · by_cases x0 : a0 < 0
      · go_wp2
        go_returns
        exact ⟨_, (by rw [HX.out (by unfold fitsP; omega)]; first | done | rfl), by rw [HNn.out (HX.out (by unfold fitsP; omega))]; exact RowKind.Own.nil RP _ _, HW.out.trans (HB.out.mono (by simp))⟩
      by_cases x1 : 1048576 < a0
      · go_wp2
        go_returns
        exact ⟨_, (by rw [HX.out (by unfold fitsP; omega)]; first | done | rfl), by rw [HNn.out (HX.out (by unfold fitsP; omega))]; exact RowKind.Own.nil RP _ _, HW.out.trans (HB.out.mono (by simp))⟩
      by_cases xk : 0 < k
      · have HK2 : Hid (okN a0 a1 a2 a3 k (0 + 1)) := by have q := HK.out; show okN _ _ _ _ _ _; unfold okN at *; omega
        clear HK HX
        go_wp2_with (at_builtin; refine RowKind.Own.push (R := RP) (y := ⟨0, a0⟩) HO.out HB.out hz rfl _ _ rfl rfl _ rfl hlen (by simp) ?_; intro v5 w5 HOn HBn hz5)
        go_roundg (4 - (0 + 1) : Int).toNat
        case measure => omega
        case rel => exact ⟨0 + 1, out ++ [(⟨0, a0⟩ : PV)], by omega, by omega, by omega, by go_num, rowP_push _ 0 k ⟨0, a0⟩ (by decide) (by omega) rfl HL.out, HK2.out, HOn, HBn⟩
      by_cases xz : a0 = 0
      · have HK2 : Hid (okN a0 a1 a2 a3 k (0 + 1)) := by have q := HK.out; show okN _ _ _ _ _ _; unfold okN at *; omega
        have HOn := HO.out
        have HBn := HB.out
        have xzb : (a0 != 0) = false := by simp [xz]
        clear HK HX xz
        go_wp2
        go_roundg (4 - (0 + 1) : Int).toNat
        case measure => omega
        case rel => exact ⟨0 + 1, out, by omega, by omega, by omega, by go_num, rowP_skip _ 0 k (by omega) HL.out, HK2.out, HOn, HBn⟩
      · have xzb : (a0 != 0) = true := by simpa using xz
        go_wp2
        go_returns
        exact ⟨_, (by rw [HX.out (by unfold fitsP; omega)]; first | done | rfl), by rw [HNn.out (HX.out (by unfold fitsP; omega))]; exact RowKind.Own.nil RP _ _, HW.out.trans (HB.out.mono (by simp))⟩
    · by_cases x0 : a1 < 0
      · go_wp2
        go_returns
        exact ⟨_, (by rw [HX.out (by unfold fitsP; omega)]; first | done | rfl), by rw [HNn.out (HX.out (by unfold fitsP; omega))]; exact RowKind.Own.nil RP _ _, HW.out.trans (HB.out.mono (by simp))⟩
      by_cases x1 : 1048576 < a1
      · go_wp2
        go_returns
        exact ⟨_, (by rw [HX.out (by unfold fitsP; omega)]; first | done | rfl), by rw [HNn.out (HX.out (by unfold fitsP; omega))]; exact RowKind.Own.nil RP _ _, HW.out.trans (HB.out.mono (by simp))⟩
      by_cases xk : 1 < k
      · have HK2 : Hid (okN a0 a1 a2 a3 k (1 + 1)) := by have q := HK.out; show okN _ _ _ _ _ _; unfold okN at *; omega
        clear HK HX
        go_wp2_with (at_builtin; refine RowKind.Own.push (R := RP) (y := ⟨1, a1⟩) HO.out HB.out hz rfl _ _ rfl rfl _ rfl hlen (by simp) ?_; intro v5 w5 HOn HBn hz5)
        go_roundg (4 - (1 + 1) : Int).toNat
        case measure => omega
        case rel => exact ⟨1 + 1, out ++ [(⟨1, a1⟩ : PV)], by omega, by omega, by omega, by go_num, rowP_push _ 1 k ⟨1, a1⟩ (by decide) (by omega) rfl HL.out, HK2.out, HOn, HBn⟩
      by_cases xz : a1 = 0
      · have HK2 : Hid (okN a0 a1 a2 a3 k (1 + 1)) := by have q := HK.out; show okN _ _ _ _ _ _; unfold okN at *; omega
        have HOn := HO.out
        have HBn := HB.out
        have xzb : (a1 != 0) = false := by simp [xz]
        clear HK HX xz
        go_wp2
        go_roundg (4 - (1 + 1) : Int).toNat
        case measure => omega
        case rel => exact ⟨1 + 1, out, by omega, by omega, by omega, by go_num, rowP_skip _ 1 k (by omega) HL.out, HK2.out, HOn, HBn⟩
      · have xzb : (a1 != 0) = true := by simpa using xz
        go_wp2
        go_returns
        exact ⟨_, (by rw [HX.out (by unfold fitsP; omega)]; first | done | rfl), by rw [HNn.out (HX.out (by unfold fitsP; omega))]; exact RowKind.Own.nil RP _ _, HW.out.trans (HB.out.mono (by simp))⟩
    · by_cases x0 : a2 < 0
      · go_wp2
        go_returns
        exact ⟨_, (by rw [HX.out (by unfold fitsP; omega)]; first | done | rfl), by rw [HNn.out (HX.out (by unfold fitsP; omega))]; exact RowKind.Own.nil RP _ _, HW.out.trans (HB.out.mono (by simp))⟩
      by_cases x1 : 1048576 < a2
      · go_wp2
        go_returns
        exact ⟨_, (by rw [HX.out (by unfold fitsP; omega)]; first | done | rfl), by rw [HNn.out (HX.out (by unfold fitsP; omega))]; exact RowKind.Own.nil RP _ _, HW.out.trans (HB.out.mono (by simp))⟩
      by_cases xk : 2 < k
      · have HK2 : Hid (okN a0 a1 a2 a3 k (2 + 1)) := by have q := HK.out; show okN _ _ _ _ _ _; unfold okN at *; omega
        clear HK HX
        go_wp2_with (at_builtin; refine RowKind.Own.push (R := RP) (y := ⟨2, a2⟩) HO.out HB.out hz rfl _ _ rfl rfl _ rfl hlen (by simp) ?_; intro v5 w5 HOn HBn hz5)
        go_roundg (4 - (2 + 1) : Int).toNat
        case measure => omega
        case rel => exact ⟨2 + 1, out ++ [(⟨2, a2⟩ : PV)], by omega, by omega, by omega, by go_num, rowP_push _ 2 k ⟨2, a2⟩ (by decide) (by omega) rfl HL.out, HK2.out, HOn, HBn⟩
      by_cases xz : a2 = 0
      · have HK2 : Hid (okN a0 a1 a2 a3 k (2 + 1)) := by have q := HK.out; show okN _ _ _ _ _ _; unfold okN at *; omega
        have HOn := HO.out
        have HBn := HB.out
        have xzb : (a2 != 0) = false := by simp [xz]
        clear HK HX xz
        go_wp2
        go_roundg (4 - (2 + 1) : Int).toNat
        case measure => omega
        case rel => exact ⟨2 + 1, out, by omega, by omega, by omega, by go_num, rowP_skip _ 2 k (by omega) HL.out, HK2.out, HOn, HBn⟩
      · have xzb : (a2 != 0) = true := by simpa using xz
        go_wp2
        go_returns
        exact ⟨_, (by rw [HX.out (by unfold fitsP; omega)]; first | done | rfl), by rw [HNn.out (HX.out (by unfold fitsP; omega))]; exact RowKind.Own.nil RP _ _, HW.out.trans (HB.out.mono (by simp))⟩
    · by_cases x0 : a3 < 0
      · go_wp2
        go_returns
        exact ⟨_, (by rw [HX.out (by unfold fitsP; omega)]; first | done | rfl), by rw [HNn.out (HX.out (by unfold fitsP; omega))]; exact RowKind.Own.nil RP _ _, HW.out.trans (HB.out.mono (by simp))⟩
      by_cases x1 : 1048576 < a3
      · go_wp2
        go_returns
        exact ⟨_, (by rw [HX.out (by unfold fitsP; omega)]; first | done | rfl), by rw [HNn.out (HX.out (by unfold fitsP; omega))]; exact RowKind.Own.nil RP _ _, HW.out.trans (HB.out.mono (by simp))⟩
      by_cases xk : 3 < k
      · have HK2 : Hid (okN a0 a1 a2 a3 k (3 + 1)) := by have q := HK.out; show okN _ _ _ _ _ _; unfold okN at *; omega
        clear HK HX
        go_wp2_with (at_builtin; refine RowKind.Own.push (R := RP) (y := ⟨3, a3⟩) HO.out HB.out hz rfl _ _ rfl rfl _ rfl hlen (by simp) ?_; intro v5 w5 HOn HBn hz5)
        go_roundg (4 - (3 + 1) : Int).toNat
        case measure => omega
        case rel => exact ⟨3 + 1, out ++ [(⟨3, a3⟩ : PV)], by omega, by omega, by omega, by go_num, rowP_push _ 3 k ⟨3, a3⟩ (by decide) (by omega) rfl HL.out, HK2.out, HOn, HBn⟩
      by_cases xz : a3 = 0
      · have HK2 : Hid (okN a0 a1 a2 a3 k (3 + 1)) := by have q := HK.out; show okN _ _ _ _ _ _; unfold okN at *; omega
        have HOn := HO.out
        have HBn := HB.out
        have xzb : (a3 != 0) = false := by simp [xz]
        clear HK HX xz
        go_wp2
        go_roundg (4 - (3 + 1) : Int).toNat
        case measure => omega
        case rel => exact ⟨3 + 1, out, by omega, by omega, by omega, by go_num, rowP_skip _ 3 k (by omega) HL.out, HK2.out, HOn, HBn⟩
      · have xzb : (a3 != 0) = true := by simpa using xz
        go_wp2
        go_returns
        exact ⟨_, (by rw [HX.out (by unfold fitsP; omega)]; first | done | rfl), by rw [HNn.out (HX.out (by unfold fitsP; omega))]; exact RowKind.Own.nil RP _ _, HW.out.trans (HB.out.mono (by simp))⟩
    · have HPa : Hid (fitsP a0 a1 a2 a3 k) := okN_end HK.out
      have HLa : Hid (out = ([(⟨0, a0⟩ : PV), ⟨1, a1⟩, ⟨2, a2⟩, ⟨3, a3⟩]).take (min 4 k).toNat) := HL.out
      have hol : out.length ≤ 4 := by rw [HLa.out, List.length_take]; simp; omega
      have HOa := HO; have HBa := HB
      clear HX HFa HK HL hlen c0 c1 c2 c3 c4 c5 c6 c7 c8 c9 c10
      go_wp2
      go_loopg [4, 7, 8] 4 (fun gg vl i x wr => ∃ (j : Int) (out2 : List PV), 0 ≤ j ∧ j ≤ 4 ∧ (4 - j).toNat ≤ gg ∧ i = .int .i64 j ∧ Hid (out2 = out ++ ([(⟨-1, b0⟩ : PV), ⟨-1, b1⟩, ⟨-1, b2⟩, ⟨-1, b3⟩]).take (min j t).toNat) ∧ Hid (okN b0 b1 b2 b3 t j) ∧ RP.Own (w.heap.size + 1) wr vl out2 ∧ Below (w.heap.size + 1) (w.alloc (.cells #[.int .i64 f, .int .i64 k, .int .i64 t, .int .i64 a0, .int .i64 a1, .int .i64 a2, .int .i64 a3, .int .i64 b0, .int .i64 b1, .int .i64 b2, .int .i64 b3] 55)) wr)
      case atStart => exact ⟨0, out, by omega, by omega, by decide, rfl, by show _ = _; rw [show min 0 t = 0 by omega]; simp, by show okN _ _ _ _ _ _; unfold okN; omega, HOa.out, HBa.out⟩
      case round =>
        clear HO HB hz HOa HBa
        obtain ⟨j, out2, hj0, hj4, hgg2, rfl, HL, HK, hO, hB⟩ := hrel
        have HO := Lib.hid hO; have HB := Lib.hid hB
        have hz := (by have := hB.size; simpa using this : w.heap.size + 1 ≤ _)
        have hlen := rowP_len HL.out hol (by simp)
        obtain ⟨c0, c1, c2, c3, c4, c5, c6, c7, c8, c9, c10⟩ := HBx.out _ hB
        clear hO hB
        have HX := HFb
        rcases (by omega : j = 0 ∨ j = 1 ∨ j = 2 ∨ j = 3 ∨ j = 4) with rfl | rfl | rfl | rfl | rfl
        · by_cases x0 : b0 < 0
          · go_wp2
            go_returns
            exact ⟨_, (by rw [HX.out (by unfold fitsP; omega)]; first | done | rfl), by rw [HNn.out (HX.out (by unfold fitsP; omega))]; exact RowKind.Own.nil RP _ _, HW.out.trans (HB.out.mono (by simp))⟩
          by_cases x1 : 1048576 < b0
          · go_wp2
            go_returns
            exact ⟨_, (by rw [HX.out (by unfold fitsP; omega)]; first | done | rfl), by rw [HNn.out (HX.out (by unfold fitsP; omega))]; exact RowKind.Own.nil RP _ _, HW.out.trans (HB.out.mono (by simp))⟩
          by_cases xk : 0 < t
          · have HK2 : Hid (okN b0 b1 b2 b3 t (0 + 1)) := by have q := HK.out; show okN _ _ _ _ _ _; unfold okN at *; omega
            clear HK HX
            go_wp2_with (at_builtin; refine RowKind.Own.push (R := RP) (y := ⟨-1, b0⟩) HO.out HB.out hz rfl _ _ rfl rfl _ rfl hlen (by simp) ?_; intro v5 w5 HOn HBn hz5)
            go_roundg (4 - (0 + 1) : Int).toNat
            case measure => omega
            case rel => exact ⟨0 + 1, out2 ++ [(⟨-1, b0⟩ : PV)], by omega, by omega, by omega, by go_num, rowP_push _ 0 t ⟨-1, b0⟩ (by decide) (by omega) rfl HL.out, HK2.out, HOn, HBn⟩
          by_cases xz : b0 = 0
          · have HK2 : Hid (okN b0 b1 b2 b3 t (0 + 1)) := by have q := HK.out; show okN _ _ _ _ _ _; unfold okN at *; omega
            have HOn := HO.out
            have HBn := HB.out
            have xzb : (b0 != 0) = false := by simp [xz]
            clear HK HX xz
            go_wp2
            go_roundg (4 - (0 + 1) : Int).toNat
            case measure => omega
            case rel => exact ⟨0 + 1, out2, by omega, by omega, by omega, by go_num, rowP_skip _ 0 t (by omega) HL.out, HK2.out, HOn, HBn⟩
          · have xzb : (b0 != 0) = true := by simpa using xz
            go_wp2
            go_returns
            exact ⟨_, (by rw [HX.out (by unfold fitsP; omega)]; first | done | rfl), by rw [HNn.out (HX.out (by unfold fitsP; omega))]; exact RowKind.Own.nil RP _ _, HW.out.trans (HB.out.mono (by simp))⟩
        · by_cases x0 : b1 < 0
          · go_wp2
            go_returns
            exact ⟨_, (by rw [HX.out (by unfold fitsP; omega)]; first | done | rfl), by rw [HNn.out (HX.out (by unfold fitsP; omega))]; exact RowKind.Own.nil RP _ _, HW.out.trans (HB.out.mono (by simp))⟩
          by_cases x1 : 1048576 < b1
          · go_wp2
            go_returns
            exact ⟨_, (by rw [HX.out (by unfold fitsP; omega)]; first | done | rfl), by rw [HNn.out (HX.out (by unfold fitsP; omega))]; exact RowKind.Own.nil RP _ _, HW.out.trans (HB.out.mono (by simp))⟩
          by_cases xk : 1 < t
          · have HK2 : Hid (okN b0 b1 b2 b3 t (1 + 1)) := by have q := HK.out; show okN _ _ _ _ _ _; unfold okN at *; omega
            clear HK HX
            go_wp2_with (at_builtin; refine RowKind.Own.push (R := RP) (y := ⟨-1, b1⟩) HO.out HB.out hz rfl _ _ rfl rfl _ rfl hlen (by simp) ?_; intro v5 w5 HOn HBn hz5)
            go_roundg (4 - (1 + 1) : Int).toNat
            case measure => omega
            case rel => exact ⟨1 + 1, out2 ++ [(⟨-1, b1⟩ : PV)], by omega, by omega, by omega, by go_num, rowP_push _ 1 t ⟨-1, b1⟩ (by decide) (by omega) rfl HL.out, HK2.out, HOn, HBn⟩
          by_cases xz : b1 = 0
          · have HK2 : Hid (okN b0 b1 b2 b3 t (1 + 1)) := by have q := HK.out; show okN _ _ _ _ _ _; unfold okN at *; omega
            have HOn := HO.out
            have HBn := HB.out
            have xzb : (b1 != 0) = false := by simp [xz]
            clear HK HX xz
            go_wp2
            go_roundg (4 - (1 + 1) : Int).toNat
            case measure => omega
            case rel => exact ⟨1 + 1, out2, by omega, by omega, by omega, by go_num, rowP_skip _ 1 t (by omega) HL.out, HK2.out, HOn, HBn⟩
          · have xzb : (b1 != 0) = true := by simpa using xz
            go_wp2
            go_returns
            exact ⟨_, (by rw [HX.out (by unfold fitsP; omega)]; first | done | rfl), by rw [HNn.out (HX.out (by unfold fitsP; omega))]; exact RowKind.Own.nil RP _ _, HW.out.trans (HB.out.mono (by simp))⟩
        · by_cases x0 : b2 < 0
          · go_wp2
            go_returns
            exact ⟨_, (by rw [HX.out (by unfold fitsP; omega)]; first | done | rfl), by rw [HNn.out (HX.out (by unfold fitsP; omega))]; exact RowKind.Own.nil RP _ _, HW.out.trans (HB.out.mono (by simp))⟩
          by_cases x1 : 1048576 < b2
          · go_wp2
            go_returns
            exact ⟨_, (by rw [HX.out (by unfold fitsP; omega)]; first | done | rfl), by rw [HNn.out (HX.out (by unfold fitsP; omega))]; exact RowKind.Own.nil RP _ _, HW.out.trans (HB.out.mono (by simp))⟩
          by_cases xk : 2 < t
          · have HK2 : Hid (okN b0 b1 b2 b3 t (2 + 1)) := by have q := HK.out; show okN _ _ _ _ _ _; unfold okN at *; omega
            clear HK HX
            go_wp2_with (at_builtin; refine RowKind.Own.push (R := RP) (y := ⟨-1, b2⟩) HO.out HB.out hz rfl _ _ rfl rfl _ rfl hlen (by simp) ?_; intro v5 w5 HOn HBn hz5)
            go_roundg (4 - (2 + 1) : Int).toNat
            case measure => omega
            case rel => exact ⟨2 + 1, out2 ++ [(⟨-1, b2⟩ : PV)], by omega, by omega, by omega, by go_num, rowP_push _ 2 t ⟨-1, b2⟩ (by decide) (by omega) rfl HL.out, HK2.out, HOn, HBn⟩
          by_cases xz : b2 = 0
          · have HK2 : Hid (okN b0 b1 b2 b3 t (2 + 1)) := by have q := HK.out; show okN _ _ _ _ _ _; unfold okN at *; omega
            have HOn := HO.out
            have HBn := HB.out
            have xzb : (b2 != 0) = false := by simp [xz]
            clear HK HX xz
            go_wp2
            go_roundg (4 - (2 + 1) : Int).toNat
            case measure => omega
            case rel => exact ⟨2 + 1, out2, by omega, by omega, by omega, by go_num, rowP_skip _ 2 t (by omega) HL.out, HK2.out, HOn, HBn⟩
          · have xzb : (b2 != 0) = true := by simpa using xz
            go_wp2
            go_returns
            exact ⟨_, (by rw [HX.out (by unfold fitsP; omega)]; first | done | rfl), by rw [HNn.out (HX.out (by unfold fitsP; omega))]; exact RowKind.Own.nil RP _ _, HW.out.trans (HB.out.mono (by simp))⟩
        · by_cases x0 : b3 < 0
          · go_wp2
            go_returns
            exact ⟨_, (by rw [HX.out (by unfold fitsP; omega)]; first | done | rfl), by rw [HNn.out (HX.out (by unfold fitsP; omega))]; exact RowKind.Own.nil RP _ _, HW.out.trans (HB.out.mono (by simp))⟩
          by_cases x1 : 1048576 < b3
          · go_wp2
            go_returns
            exact ⟨_, (by rw [HX.out (by unfold fitsP; omega)]; first | done | rfl), by rw [HNn.out (HX.out (by unfold fitsP; omega))]; exact RowKind.Own.nil RP _ _, HW.out.trans (HB.out.mono (by simp))⟩
          by_cases xk : 3 < t
          · have HK2 : Hid (okN b0 b1 b2 b3 t (3 + 1)) := by have q := HK.out; show okN _ _ _ _ _ _; unfold okN at *; omega
            clear HK HX
            go_wp2_with (at_builtin; refine RowKind.Own.push (R := RP) (y := ⟨-1, b3⟩) HO.out HB.out hz rfl _ _ rfl rfl _ rfl hlen (by simp) ?_; intro v5 w5 HOn HBn hz5)
            go_roundg (4 - (3 + 1) : Int).toNat
            case measure => omega
            case rel => exact ⟨3 + 1, out2 ++ [(⟨-1, b3⟩ : PV)], by omega, by omega, by omega, by go_num, rowP_push _ 3 t ⟨-1, b3⟩ (by decide) (by omega) rfl HL.out, HK2.out, HOn, HBn⟩
          by_cases xz : b3 = 0
          · have HK2 : Hid (okN b0 b1 b2 b3 t (3 + 1)) := by have q := HK.out; show okN _ _ _ _ _ _; unfold okN at *; omega
            have HOn := HO.out
            have HBn := HB.out
            have xzb : (b3 != 0) = false := by simp [xz]
            clear HK HX xz
            go_wp2
            go_roundg (4 - (3 + 1) : Int).toNat
            case measure => omega
            case rel => exact ⟨3 + 1, out2, by omega, by omega, by omega, by go_num, rowP_skip _ 3 t (by omega) HL.out, HK2.out, HOn, HBn⟩
          · have xzb : (b3 != 0) = true := by simpa using xz
            go_wp2
            go_returns
            exact ⟨_, (by rw [HX.out (by unfold fitsP; omega)]; first | done | rfl), by rw [HNn.out (HX.out (by unfold fitsP; omega))]; exact RowKind.Own.nil RP _ _, HW.out.trans (HB.out.mono (by simp))⟩
        · have HRt := Lib.hid (HT.out HPa.out (okN_end HK.out))
          have HLp : Hid (out2 = pp) := by show _ = _; rw [HL.out, HP.out, HLa.out]
          clear HX HK HL
          go_wp2
          go_returns
          exact ⟨_, (by rw [HRt.out]; first | done | rfl), by rw [HYy.out HRt.out, ← HLp.out]; exact HO.out.mono (by omega), HW.out.trans (HB.out.mono (by simp))⟩
theorem parts_any (h : HV) (w : World) : Calls Tryz.prog 45 #[h.val] w (PartsR h w) := by
  by_cases hs : h.shape ∧ 1 ≤ h.k + h.t ∧ h.k + h.t ≤ 4
  · exact parts_yes h hs w
  · exact parts_no h hs (.inr trivial) w
end Go.Proofs.YtjaahmgokiobjaaGreat
