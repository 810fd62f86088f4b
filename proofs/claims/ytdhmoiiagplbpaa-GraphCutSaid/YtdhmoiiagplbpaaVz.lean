/- graph.scopesFit -/
import Derived.Test.YtdhmoiiagplbpaaVy
namespace Go.Proofs.Ytdhmoiiagplbpaa
open Go.RowKit
set_option linter.unusedVariables false
set_option linter.unusedSimpArgs false

def fitsS (P Q : List Int) : Prop := 1 ≤ P.length ∧ P.length ≤ 8 ∧ P.length = Q.length ∧ P[0]! = -1 ∧ Q[0]! = 0 ∧ (∀ x ∈ P.tail, lowN x) ∧ (∀ x ∈ Q.tail, lowN x)
instance (P Q : List Int) : Decidable (fitsS P Q) := by unfold fitsS; infer_instance
set_option maxRecDepth 100000 in
set_option maxHeartbeats 4000000 in
theorem sfits_one (x y : Int) (b off c b2 off2 c2 : Nat) (w : World) (hb : b < w.heap.size) (hr : RN.Row w b off [x]) (hc : 1 ≤ c) (hb2 : b2 < w.heap.size) (hr2 : RN.Row w b2 off2 [y]) (hc2 : 1 ≤ c2) (p3 : Option Addr) (n3 c3 : Nat) (p4 : Option Addr) (n4 c4 : Nat) :
    Calls Try.prog 16 #[.agg #[.slice (some ⟨b, off, none⟩) 1 c, .slice (some ⟨b2, off2, none⟩) 1 c2, .slice p3 n3 c3, .slice p4 n4 c4]] w (Ret (.bool (decide (fitsS [x] [y]))) w) := by
  have HT := Lib.hid (fun p cap W => small_nil p cap W)
  have HR := Lib.hid (fun (r : Bool) (h : (x = -1 ∧ y = 0) ↔ r = true) => show decide (fitsS [x] [y]) = r by
    rw [Bool.eq_iff_iff, decide_eq_true_eq, ← h]
    exact ⟨fun q => ⟨q.2.2.2.1, q.2.2.2.2.1⟩, fun q => ⟨by simp, by simp, rfl, q.1, q.2, by simp, by simp⟩⟩)
  have HB0 := Lib.hid ((Below.refl w.heap.size w).alloc (Nat.le_refl _) (.cells #[.slice (some ⟨b, off, none⟩) 1 c, .slice (some ⟨b2, off2, none⟩) 1 c2, .slice p3 n3 c3, .slice p4 n4 c4] 26))
  have HBA := Lib.hid (fun o => (Below.refl w.heap.size w).alloc (Nat.le_refl _) o)
  have hP0 := atN (hr.below HB0.out hb) 0 (by simp)
  have hQ0 := atN (hr2.below HB0.out hb2) 0 (by simp)
  rw [show [x][0]! = x from rfl] at hP0
  rw [show [y][0]! = y from rfl] at hQ0
  rw [Nat.add_zero] at hP0 hQ0
  generalize decide (fitsS [x] [y]) = res at *
  clear hr hr2
  go_enter Try.func16, Try.ntmps16
  by_cases e1 : x = -1
  · have hx1 : (x == -1) = true := by simp [e1]
    by_cases e2 : y = 0
    · have hy1 : (y == 0) = true := by simp [e2]
      go_wp2_with (refine (HT.out _ _ _).mono ?_; rintro ee w1 ⟨rfl, rfl⟩)
      all_goals have HX := Lib.hid (HR.out true ⟨fun _ => rfl, fun _ => ⟨e1, e2⟩⟩)
      all_goals go_returns
      all_goals exact ⟨ret_bool HX.out.symm, HBA.out _⟩
    · have hy1 : (y == 0) = false := by simp [e2]
      have HX := Lib.hid (HR.out false ⟨fun q => absurd q.2 e2, fun q => by cases q⟩)
      go_wp2
      go_returns
      exact ⟨ret_bool HX.out.symm, HB0.out⟩
  · have hx1 : (x == -1) = false := by simp [e1]
    have HX := Lib.hid (HR.out false ⟨fun q => absurd q.1 e1, fun q => by cases q⟩)
    go_wp2
    go_returns
    exact ⟨ret_bool HX.out.symm, HB0.out⟩
set_option maxRecDepth 100000 in
set_option maxHeartbeats 4000000 in
theorem sfits_row (P Q : List Int) (b off c b2 off2 c2 : Nat) (w : World) (hn : 2 ≤ P.length) (hn8 : P.length ≤ 8) (hm : P.length = Q.length) (hb : b < w.heap.size) (hr : RN.Row w b off P) (hc : P.length ≤ c) (hb2 : b2 < w.heap.size) (hr2 : RN.Row w b2 off2 Q) (hc2 : Q.length ≤ c2) (p3 : Option Addr) (n3 c3 : Nat) (p4 : Option Addr) (n4 c4 : Nat) :
    Calls Try.prog 16 #[.agg #[.slice (some ⟨b, off, none⟩) P.length c, .slice (some ⟨b2, off2, none⟩) Q.length c2, .slice p3 n3 c3, .slice p4 n4 c4]] w (Ret (.bool (decide (fitsS P Q))) w) := by
  have hT : ∀ (xs : List Int) (b off c : Nat), b < w.heap.size → RN.Row w b off xs → 2 ≤ xs.length → xs.length ≤ 8 → ∀ W, Below w.heap.size w W → Calls Try.prog 38 #[.slice (some ⟨b, off + 1, none⟩) (xs.length - 1) c] W (RetW (.bool (decide (∀ x ∈ xs.tail, lowN x))) W) := fun xs b off c hb hr hn hn8 W hW => by
    match xs, hn, hr, hn8 with
    | a :: d :: t, _, hr, hn8 =>
      have := small_row (d :: t) b (off + 1) c W (by simp at hn8 ⊢; omega) ((RowKind.Row.tail hr).below hW hb)
      simpa using this
  have HT1 := Lib.hid (hT P b off (c - 1) hb hr hn hn8)
  have HT2 := Lib.hid (hT Q b2 off2 (c2 - 1) hb2 hr2 (by omega) (by omega))
  clear hT
  have HR := Lib.hid (fun (r : Bool) (h : (P[0]! = -1 ∧ Q[0]! = 0 ∧ (∀ x ∈ P.tail, lowN x) ∧ (∀ x ∈ Q.tail, lowN x)) ↔ r = true) => show decide (fitsS P Q) = r by
    rw [Bool.eq_iff_iff, decide_eq_true_eq, ← h]
    exact ⟨fun q => q.2.2.2, fun q => ⟨by omega, hn8, hm, q⟩⟩)
  have HB0 := Lib.hid ((Below.refl w.heap.size w).alloc (Nat.le_refl _) (.cells #[.slice (some ⟨b, off, none⟩) P.length c, .slice (some ⟨b2, off2, none⟩) Q.length c2, .slice p3 n3 c3, .slice p4 n4 c4] 26))
  have hP0 := atN (hr.below HB0.out hb) 0 (by omega)
  have hQ0 := atN (hr2.below HB0.out hb2) 0 (by omega)
  rw [Nat.add_zero] at hP0 hQ0
  generalize decide (fitsS P Q) = res at *
  generalize P[0]! = x at *
  generalize Q[0]! = y at *
  generalize hd1 : decide (∀ x ∈ P.tail, lowN x) = d1 at *
  generalize hd2 : decide (∀ x ∈ Q.tail, lowN x) = d2 at *
  have HD1 : Hid ((∀ x ∈ P.tail, lowN x) ↔ d1 = true) := by show _ ↔ _; rw [← hd1, decide_eq_true_eq]
  have HD2 : Hid ((∀ x ∈ Q.tail, lowN x) ↔ d2 = true) := by show _ ↔ _; rw [← hd2, decide_eq_true_eq]
  clear hd1 hd2 hr hr2
  rw [← hm] at *
  generalize P.length = n at *
  clear hm
  have hnb : ((n : Int) == (n : Int)) = true := by simp
  have hn0 : (n : Int) > 0 := by omega
  have hn9 : (n : Int) ≤ 8 := by omega
  have hc1 : ¬ c = 1 := by omega
  have hc3 : ¬ c2 = 1 := by omega
  go_enter Try.func16, Try.ntmps16
  by_cases e1 : x = -1
  · have hx1 : (x == -1) = true := by simp [e1]
    by_cases e2 : y = 0
    · have hy1 : (y == 0) = true := by simp [e2]
      go_wp2_with fail
      refine (HT1.out _ HB0.out).mono ?_
      rintro ee w1 ⟨rfl, rfl⟩
      cases d1
      · have HX := Lib.hid (HR.out false ⟨fun q => (HD1.out.1 q.2.2.1), fun q => by cases q⟩)
        go_wp2
        go_returns
        exact ⟨ret_bool HX.out.symm, HB0.out⟩
      · go_wp2_with fail
        refine (HT2.out _ HB0.out).mono ?_
        rintro ee w1 ⟨rfl, rfl⟩
        have HX := Lib.hid (HR.out d2 ⟨fun q => HD2.out.1 q.2.2.2, fun q => ⟨e1, e2, HD1.out.2 trivial, HD2.out.2 q⟩⟩)
        go_wp2
        go_returns
        exact ⟨ret_bool HX.out.symm, HB0.out⟩
    · have hy1 : (y == 0) = false := by simp [e2]
      have HX := Lib.hid (HR.out false ⟨fun q => absurd q.2.1 e2, fun q => by cases q⟩)
      go_wp2
      go_returns
      exact ⟨ret_bool HX.out.symm, HB0.out⟩
  · have hx1 : (x == -1) = false := by simp [e1]
    have HX := Lib.hid (HR.out false ⟨fun q => absurd q.1 e1, fun q => by cases q⟩)
    go_wp2
    go_returns
    exact ⟨ret_bool HX.out.symm, HB0.out⟩
set_option maxRecDepth 100000 in
set_option maxHeartbeats 4000000 in
theorem sfits_no (n m : Nat) (p q : Option Addr) (c c2 : Nat) (w : World) (h : ¬ (1 ≤ n ∧ n ≤ 8 ∧ n = m)) (p3 : Option Addr) (n3 c3 : Nat) (p4 : Option Addr) (n4 c4 : Nat) :
    Calls Try.prog 16 #[.agg #[.slice p n c, .slice q m c2, .slice p3 n3 c3, .slice p4 n4 c4]] w (Ret (.bool false) w) := by
  have HB0 := Lib.hid ((Below.refl w.heap.size w).alloc (Nat.le_refl _) (.cells #[.slice p n c, .slice q m c2, .slice p3 n3 c3, .slice p4 n4 c4] 26))
  by_cases e1 : 1 ≤ n
  · by_cases e2 : n ≤ 8
    · have e3 : ((m : Int) == (n : Int)) = false := by simp; omega
      have e1 : (n : Int) > 0 := by omega
      have e2 : (n : Int) ≤ 8 := by omega
      clear h
      go_enter Try.func16, Try.ntmps16
      go_wp2
      go_returns
      exact ⟨rfl, HB0.out⟩
    · have e1 : (n : Int) > 0 := by omega
      have e2 : ¬ (n : Int) ≤ 8 := by omega
      clear h
      go_enter Try.func16, Try.ntmps16
      go_wp2
      go_returns
      exact ⟨rfl, HB0.out⟩
  · have e1 : ¬ (n : Int) > 0 := by omega
    clear h
    go_enter Try.func16, Try.ntmps16
    go_wp2
    go_returns
    exact ⟨rfl, HB0.out⟩
/-- no slice of the graph is longer than its room -/
def roomG (v : Value) : Prop := ∃ pv bv nv ev, v = .agg #[pv, bv, nv, ev] ∧ capOk pv ∧ capOk bv
theorem sfits_any (g : GV) (v : Value) (w : World) (h : IsG w v g) (hr : roomG v) : Calls Try.prog 16 #[v] w (Ret (.bool (decide (fitsS g.parent g.bound))) w) := by
  obtain ⟨pv, bv, nv, ev, rfl, h1, h2, ⟨xs, h3, _⟩, h4⟩ := h
  obtain ⟨_, _, _, _, e, r1, r2⟩ := hr
  simp only [Value.agg.injEq, Array.mk.injEq, List.cons.injEq, and_true] at e
  obtain ⟨rfl, rfl, rfl, rfl⟩ := e
  obtain ⟨p3, c3, rfl⟩ := h3.slice
  obtain ⟨p4, c4, rfl⟩ := h4.slice
  by_cases hl : 1 ≤ g.parent.length ∧ g.parent.length ≤ 8 ∧ g.parent.length = g.bound.length
  · rcases h1 with ⟨e, _⟩ | ⟨_, b, off, c, rfl, hb, hrow⟩
    · rw [e] at hl; simp at hl
    · rcases h2 with ⟨e, _⟩ | ⟨_, b2, off2, c2, rfl, hb2, hrow2⟩
      · have := hl.2.2; rw [e] at this; have h0 := hl.1; rw [this] at h0; simp at h0
      · have k1 := r1 _ _ _ rfl
        have k2 := r2 _ _ _ rfl
        generalize g.parent = P at *
        generalize g.bound = Q at *
        by_cases h2 : 2 ≤ P.length
        · exact sfits_row P Q b off c b2 off2 c2 w h2 hl.2.1 hl.2.2 hb hrow k1 hb2 hrow2 k2 p3 _ c3 p4 _ c4
        · obtain ⟨x, rfl⟩ := List.length_eq_one_iff.1 (show P.length = 1 by omega)
          obtain ⟨y, rfl⟩ := List.length_eq_one_iff.1 (hl.2.2.symm.trans rfl)
          exact sfits_one x y b off c b2 off2 c2 w hb hrow k1 hb2 hrow2 k2 p3 _ c3 p4 _ c4
  · obtain ⟨p, c, rfl⟩ := h1.slice
    obtain ⟨q, c2, rfl⟩ := h2.slice
    rw [decide_eq_false (fun e => hl ⟨e.1, e.2.1, e.2.2.1⟩)]
    exact sfits_no _ _ p q c c2 w hl p3 _ c3 p4 _ c4
end Go.Proofs.Ytdhmoiiagplbpaa
