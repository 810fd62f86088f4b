/- two records, two items, two lists of either: the same? -/
import Derived.Test.YthhceggcdaljdaaGreatG02
import Derived.Laws.StructEq
import Derived.Test.YthhceggcdaljdaaGreatG21
import Derived.Test.YthhceggcdaljdaaGreatG04
import Derived.Test.YthhceggcdaljdaaGreatG05
namespace Go.Proofs.YthhceggcdaljdaaGreat
open Go.RowKit
set_option linter.unusedVariables false
set_option linter.unusedSimpArgs false

def eqR (a b : RV) : Bool := decide (a = b)
def eqI (a b : IV) : Bool := decide (a = b)
theorem eqR_iff (a b : RV) : eqR a b = (decide (a.k = b.k) && decide (a.v = b.v)) := by
  rw [Bool.eq_iff_iff]
  simp only [eqR, decide_eq_true_eq, Bool.and_eq_true]
  constructor
  · intro h; subst h; exact ⟨rfl, rfl⟩
  · rintro ⟨h0, h1⟩; exact RV.ext2 h0 h1
theorem eqI_iff (a b : IV) : eqI a b = (eqR a.t b.t && decide (a.n = b.n)) := by
  rw [Bool.eq_iff_iff]
  simp only [eqI, eqR, decide_eq_true_eq, Bool.and_eq_true]
  constructor
  · intro h; subst h; exact ⟨rfl, rfl⟩
  · rintro ⟨h0, h1⟩; cases a; cases b; simp only at h0 h1; subst h0; subst h1; rfl
set_option maxRecDepth 100000 in
theorem eqRecIn (d : Nat) (a0 a1 b0 b1 : Int) (w : World) : (Op.equalIn (d + 1 + 1) 27 (.agg #[.int .i64 a0, .int .i64 a1]) (.agg #[.int .i64 b0, .int .i64 b1])).run Tryz.prog w = .ok (eqR ⟨a0, a1⟩ ⟨b0, b1⟩) w := by
  have u3 := Tryz.underlying2
  have hS : Tryz.prog.underlying 27 = some (.struct (Tryz.prog.fieldsOf 27)) := by kernel_rfl
  have hp : Tryz.prog.stoodInHeld 27 = false := by kernel_rfl
  rw [run_equalIn_agg w (d + 1) 27 _ _ hS hp]
  simp only [Program.fieldsOf, Tryz.underlying27]
  rw [eqR_iff]
  simp only
  go_simp
  by_cases h0 : a0 = b0 <;> by_cases h1 : a1 = b1 <;> simp [h0, h1, Result.andThen]
set_option maxRecDepth 100000 in
theorem eqRec (a0 a1 b0 b1 : Int) (w : World) : (binOp .eql 27 (.agg #[.int .i64 a0, .int .i64 a1]) (.agg #[.int .i64 b0, .int .i64 b1])).run Tryz.prog w = .ok (.bool (eqR ⟨a0, a1⟩ ⟨b0, b1⟩)) w := by
  rw [run_eql_struct, show (10000 : Nat) = 9998 + 1 + 1 from rfl, eqRecIn]
  rfl
set_option maxRecDepth 100000 in
theorem neRec (a0 a1 b0 b1 : Int) (w : World) : (binOp .neq 27 (.agg #[.int .i64 a0, .int .i64 a1]) (.agg #[.int .i64 b0, .int .i64 b1])).run Tryz.prog w = .ok (.bool (!eqR ⟨a0, a1⟩ ⟨b0, b1⟩)) w := by
  rw [run_neq_struct, show (10000 : Nat) = 9998 + 1 + 1 from rfl, eqRecIn]
  rfl
set_option maxRecDepth 100000 in
theorem eqItemIn (d : Nat) (a0 a1 a2 b0 b1 b2 : Int) (w : World) : (Op.equalIn (d + 1 + 1 + 1) 57 (.agg #[.int .i64 a0, .int .i64 a1, .int .i64 a2]) (.agg #[.int .i64 b0, .int .i64 b1, .int .i64 b2])).run Tryz.prog w = .ok (eqI ⟨⟨a0, a1⟩, a2⟩ ⟨⟨b0, b1⟩, b2⟩) w := by
  have u3 := Tryz.underlying3
  have hS : Tryz.prog.underlying 57 = some (.struct (Tryz.prog.fieldsOf 57)) := by kernel_rfl
  have hp : Tryz.prog.stoodInHeld 57 = false := by kernel_rfl
  have hR := eqRecIn d a0 a1 b0 b1
  rw [run_equalIn_agg w (d + 1 + 1) 57 _ _ hS hp]
  simp only [Program.fieldsOf, Tryz.underlying57]
  rw [eqI_iff]
  simp only
  go_simp
  generalize eqR ⟨a0, a1⟩ ⟨b0, b1⟩ = q at *
  by_cases h2 : a2 = b2 <;> cases q <;> simp [h2, Result.andThen, hR]
set_option maxRecDepth 100000 in
theorem eqItem (a0 a1 a2 b0 b1 b2 : Int) (w : World) : (binOp .eql 57 (.agg #[.int .i64 a0, .int .i64 a1, .int .i64 a2]) (.agg #[.int .i64 b0, .int .i64 b1, .int .i64 b2])).run Tryz.prog w = .ok (.bool (eqI ⟨⟨a0, a1⟩, a2⟩ ⟨⟨b0, b1⟩, b2⟩)) w := by
  rw [run_eql_struct, show (10000 : Nat) = 9997 + 1 + 1 + 1 from rfl, eqItemIn]
  rfl
set_option maxRecDepth 100000 in
theorem neItem (a0 a1 a2 b0 b1 b2 : Int) (w : World) : (binOp .neq 57 (.agg #[.int .i64 a0, .int .i64 a1, .int .i64 a2]) (.agg #[.int .i64 b0, .int .i64 b1, .int .i64 b2])).run Tryz.prog w = .ok (.bool (!eqI ⟨⟨a0, a1⟩, a2⟩ ⟨⟨b0, b1⟩, b2⟩)) w := by
  rw [run_neq_struct, show (10000 : Nat) = 9997 + 1 + 1 + 1 from rfl, eqItemIn]
  rfl
attribute [local go_sem ↓] eqRec neRec eqItem neItem

set_option maxRecDepth 100000 in
set_option maxHeartbeats 4000000 in
theorem bequal_row (xs ys : List IV) (b off cap b2 off2 cap2 : Nat) (w : World) (hl : xs.length ≤ 900000) (hlen : xs.length = ys.length) (hb : b < w.heap.size) (hr : RI.Row w b off xs) (hb2 : b2 < w.heap.size) (hr2 : RI.Row w b2 off2 ys) :
    Calls Tryz.prog 66 #[.slice (some ⟨b, off, none⟩) xs.length cap, .slice (some ⟨b2, off2, none⟩) ys.length cap2] w (Ret (.bool (decide (xs = ys))) w) := by
  have hrow : Hid (∀ (W : World), Below w.heap.size w W → ∀ j, j < xs.length → _) := fun W hW j hj => atI (hr.below hW hb) j hj
  have hrow2 : Hid (∀ (W : World), Below w.heap.size w W → ∀ j, j < ys.length → _) := fun W hW j hj => atI (hr2.below hW hb2) j hj
  clear hr hr2
  rw [← hlen]
  generalize hn : xs.length = n at hl hlen
  have HN := Lib.hid hn
  have HM := Lib.hid hlen
  clear hn hlen
  generalize hres : decide (xs = ys) = res
  have HR := Lib.hid hres
  clear hres
  go_enter Tryz.func66, Tryz.ntmps66
  go_wp2
  go_loopg [13] n (fun gg i wr => ∃ k : Nat, k ≤ n ∧ n - k ≤ gg ∧ i = .int .i64 k ∧ Hid (Below w.heap.size w wr) ∧ Hid (xs.take k = ys.take k))
  case atStart => exact ⟨0, Nat.zero_le _, by omega, rfl, (Below.refl _ _), rfl⟩
  case round =>
    obtain ⟨k, hkn, hg, rfl, HB, HC⟩ := hrel
    by_cases hlt : k < n
    · have hlz : (k : Int) < (n : Int) := by omega
      have hc := fun m => hrow.out (wr.drewN m) (below_drewN HB.out m) k (by rw [HN.out]; exact hlt)
      have hc2 := fun m => hrow2.out (wr.drewN m) (below_drewN HB.out m) k (by rw [← HM.out]; exact hlt)
      have hgo := fun (h : xs[k]! = ys[k]!) => show xs.take (k + 1) = ys.take (k + 1) by rw [take_getA xs k (by rw [HN.out]; exact hlt), take_getA ys k (by rw [← HM.out]; exact hlt), HC.out, h]
      have hno := fun (h : ¬ xs[k]! = ys[k]!) => show res = false from by rw [← HR.out]; exact decide_eq_false (fun e => h (by rw [e]))
      generalize xs[k]! = x at hc hgo hno
      generalize ys[k]! = y at hc2 hgo hno
      have e0 := fun m => (hc m).1; have e1 := fun m => (hc m).2.1; have e2 := fun m => (hc m).2.2
      have f0 := fun m => (hc2 m).1; have f1 := fun m => (hc2 m).2.1; have f2 := fun m => (hc2 m).2.2
      clear hc hc2 hrow hrow2
      by_cases hxy : x = y
      · have hq : eqI ⟨⟨x.t.k, x.t.v⟩, x.n⟩ ⟨⟨y.t.k, y.t.v⟩, y.n⟩ = true := decide_eq_true (by rw [hxy])
        have HG := Lib.hid (hgo hxy)
        clear hgo hno hxy
        go_wp2_with fail
        go_quiet (fail)
        go_wp2
        go_roundg (n - (k + 1))
        case measure => omega
        case rel => exact ⟨k + 1, by omega, by omega, by go_num, below_drewN HB.out _, HG.out⟩
      · have hq : eqI ⟨⟨x.t.k, x.t.v⟩, x.n⟩ ⟨⟨y.t.k, y.t.v⟩, y.n⟩ = false := decide_eq_false (fun e => hxy (by obtain ⟨⟨x0, x1⟩, x2⟩ := x; obtain ⟨⟨y0, y1⟩, y2⟩ := y; exact e))
        have HG := Lib.hid (hno hxy)
        clear hgo hno hxy
        go_wp2_with fail
        go_quiet (fail)
        go_wp2
        go_returns
        exact ⟨ret_bool HG.out.symm, below_drewN HB.out _⟩
    · have hlz : ¬ (k : Int) < (n : Int) := by omega
      have : k = n := by omega
      subst this
      have HX : Hid (res = true) := by
        have h := HC.out
        rw [List.take_of_length_le (by rw [HN.out]; exact Nat.le_refl _), List.take_of_length_le (by rw [← HM.out]; exact Nat.le_refl _)] at h
        show res = true
        rw [← HR.out]
        exact decide_eq_true h
      clear HC hrow hrow2
      go_wp2
      go_returns
      exact ⟨ret_bool HX.out.symm, HB.out⟩
set_option maxHeartbeats 2000000 in
theorem bequal_no (xs ys : List IV) (p q : Option Addr) (cap cap2 : Nat) (w : World) (hlen : xs.length ≠ ys.length) (h1 : xs.length ≤ 900000) (h2 : ys.length ≤ 900000) :
    Calls Tryz.prog 66 #[.slice p xs.length cap, .slice q ys.length cap2] w (Ret (.bool (decide (xs = ys))) w) := by
  rw [decide_eq_false (fun e => hlen (by rw [e]))]
  generalize xs.length = n at *
  generalize ys.length = m at *
  have hne : ¬ (n : Int) = (m : Int) := by omega
  have hneb : ((n : Int) != (m : Int)) = true := by simpa using hne
  go_enter Tryz.func66, Tryz.ntmps66
  go_wp2
  go_returns
  exact ⟨rfl, Below.refl _ _⟩
set_option maxHeartbeats 2000000 in
theorem bequal_nil (p q : Option Addr) (cap cap2 : Nat) (w : World) :
    Calls Tryz.prog 66 #[.slice p 0 cap, .slice q 0 cap2] w (Ret (.bool (decide (([] : List IV) = []))) w) := by
  rw [decide_eq_true rfl]
  go_enter Tryz.func66, Tryz.ntmps66
  go_wp2
  refine wp_loop_rounds 1 ?_
  rw [rounds_succ]
  go_wp2
  go_returns
  exact ⟨rfl, Below.refl _ _⟩
theorem bequal_any (xs ys : List IV) (va vb : Value) (w : World) (h1 : xs.length ≤ 900000) (h2 : ys.length ≤ 900000) (ha : RI.Is w va xs) (hb : RI.Is w vb ys) : Calls Tryz.prog 66 #[va, vb] w (Ret (.bool (decide (xs = ys))) w) := by
  by_cases hlen : xs.length = ys.length
  · rcases ha with ⟨rfl, p, cap, rfl, _⟩ | ⟨hne, b, off, cap, rfl, hl, hr⟩
    · obtain rfl : ys = [] := List.length_eq_zero_iff.1 hlen.symm
      obtain ⟨q, d, rfl⟩ := hb.slice
      exact bequal_nil p q cap d w
    · rcases hb with ⟨rfl, q, d, rfl, _⟩ | ⟨_, b2, off2, cap2, rfl, hl2, hr2⟩
      · exact absurd (List.length_eq_zero_iff.1 hlen) hne
      · exact bequal_row xs ys b off cap b2 off2 cap2 w h1 hlen hl hr hl2 hr2
  · obtain ⟨p, c, rfl⟩ := ha.slice
    obtain ⟨q, d, rfl⟩ := hb.slice
    exact bequal_no xs ys p q c d w hlen h1 h2
theorem bsame_any (xs ys : List IV) (va vb : Value) (w : World) (h1 : xs.length ≤ 900000) (h2 : ys.length ≤ 900000) (ha : RI.Is w va xs) (hb : RI.Is w vb ys) : Calls Tryz.prog 25 #[va, vb] w (Ret (.bool (decide (xs = ys))) w) := by
  have H := Lib.hid (bequal_any xs ys va vb w h1 h2 ha hb)
  obtain ⟨p, c, rfl⟩ := ha.slice
  obtain ⟨q, d, rfl⟩ := hb.slice
  generalize decide (xs = ys) = r at *
  clear ha hb
  generalize xs.length = n at *
  generalize ys.length = m at *
  go_enter Tryz.func25, Tryz.ntmps25
  go_wp2_with fail
  refine (H.out).mono ?_
  rintro e w1 ⟨rfl, hb1⟩
  go_wp2
  go_returns
  exact ⟨rfl, hb1⟩
end Go.Proofs.YthhceggcdaljdaaGreat
/- the document's Add on bags -/
namespace Go.Proofs.YthhceggcdaljdaaGreat
open Go.RowKit
set_option linter.unusedVariables false
set_option linter.unusedSimpArgs false
attribute [local go_sem ↓] eqRec neRec

/-- what stands behind the items that were gone through -/
def restA (R : List IV) (r : RV) (n : Int) (d : Bool) : List IV := if d = true then R else mergedI R [⟨r, n⟩]
structure AddInv (b : List IV) (r : RV) (n : Int) (k : Nat) (out : List IV) (d : Bool) : Prop where
  res : (if n = 0 then b else mergedI b [⟨r, n⟩]) = out ++ restA (b.drop k) r n d
  open_ : d = false → n ≠ 0 ∧ out = b.take k
  done : d = true → n = 0 ∨ ∀ x ∈ b.drop k, r.lt x.t = true
  len : out.length ≤ k + 1
theorem add_start (b : List IV) (r : RV) (n : Int) : AddInv b r n 0 [] (n == 0) := by
  by_cases h : n = 0
  · subst h
    exact ⟨by simp [restA], fun h => (by cases h), fun _ => .inl rfl, by simp⟩
  · have hb : (n == 0) = false := by simpa using h
    rw [hb]
    exact ⟨by rw [if_neg h]; simp [restA], fun _ => ⟨h, rfl⟩, fun h => (by cases h), by simp⟩
theorem drop_get {b : List IV} {k : Nat} (hk : k < b.length) : b.drop k = b[k]! :: b.drop (k + 1) := by
  rw [getElem!_pos b k hk]; exact List.drop_eq_getElem_cons hk
section
variable {b : List IV} {r : RV} {n : Int} {k : Nat} {out : List IV} {d : Bool}
theorem good_drop (hb : goodI b) (k : Nat) : goodI (b.drop k) := ⟨fun c hc => hb.1 c (List.mem_of_mem_drop hc), hb.2.sublist (List.drop_sublist _ _)⟩
/-- another record, and the one that is put is there already or stands behind it -/
theorem add_pass (hb : goodI b) (h : AddInv b r n k out d) (hk : k < b.length) (hne : ¬ (b[k]!).t = r) (hl : d = true ∨ r.lt (b[k]!).t = false) : AddInv b r n (k + 1) (out ++ [b[k]!]) d := by
  have e := drop_get hk
  have hres := h.res
  have hdone := h.done
  rw [e] at hres hdone
  generalize hx : b[k]! = x at *
  refine ⟨?_, fun hd => ⟨(h.open_ hd).1, by rw [(h.open_ hd).2, take_getA b k hk, hx]⟩, fun hd => ?_, by have := h.len; simp; omega⟩
  · rw [hres, List.append_assoc]
    congr 1
    cases d with
    | true => rfl
    | false =>
      have hl : r.lt x.t = false := by rcases hl with hl | hl; cases hl; exact hl
      have h1 : cmpR x.t r < 0 := by
        have : x.t.lt r = true := by
          cases q : x.t.lt r
          · exact absurd (RV.tri q hl) hne
          · rfl
        rw [← cmpR_lt] at this
        exact of_decide_eq_true this
      show mergedI (x :: b.drop (k + 1)) [⟨r, n⟩] = [x] ++ mergedI (b.drop (k + 1)) [⟨r, n⟩]
      rw [mergedI_lt (x := x) (y := ⟨r, n⟩) _ _ h1]
      rfl
  · rcases hdone hd with q | q
    · exact .inl q
    · exact .inr fun y hy => q y (by simp [hy])
/-- the one that is put stands ahead of it -/
theorem add_ahead (hb : goodI b) (h : AddInv b r n k out false) (hk : k < b.length) (hlt : r.lt (b[k]!).t = true) : AddInv b r n (k + 1) ((out ++ [⟨r, n⟩]) ++ [b[k]!]) true := by
  have e := drop_get hk
  have hres := h.res
  have hg := good_drop hb k
  rw [e] at hres hg
  have ho := (h.open_ rfl).2
  have hlen : out.length ≤ k := by rw [ho, List.length_take]; omega
  generalize b[k]! = x at *
  refine ⟨?_, fun hd => (by cases hd), fun _ => .inr fun y hy => RV.lt_trans hlt (good_low hg y hy), by simp; omega⟩
  rw [hres]
  have h1 : 0 < cmpR x.t r := by rw [← cmpR_gt] at hlt; exact of_decide_eq_true hlt
  show out ++ mergedI (x :: b.drop (k + 1)) [⟨r, n⟩] = _
  rw [mergedI_gt (x := x) (y := ⟨r, n⟩) _ _ h1, mergedI_nil]
  simp [restA]
/-- it is the one, and it fits -/
theorem add_same (hb : goodI b) (h : AddInv b r n k out d) (hk : k < b.length) (he : (b[k]!).t = r) (hf : fitsN ((b[k]!).n + n) = true) :
    AddInv b r n (k + 1) (if (b[k]!).n + n = 0 then out else out ++ [⟨(b[k]!).t, (b[k]!).n + n⟩]) true := by
  have e := drop_get hk
  have hres := h.res
  have hdone := h.done
  have hg := good_drop hb k
  rw [e] at hres hg hdone
  generalize b[k]! = x at *
  have hx := (IV.ok_iff x).1 (hg.1 x (by simp))
  have hlow : ∀ y ∈ b.drop (k + 1), r.lt y.t = true := fun y hy => by rw [← he]; exact good_low hg y hy
  refine ⟨?_, fun hd => (by cases hd), fun _ => .inr hlow, by have := h.len; split <;> simp <;> omega⟩
  rw [hres]
  cases d with
  | true =>
    have hn : n = 0 := by
      rcases hdone rfl with q | q
      · exact q
      · have := q x (by simp)
        rw [he, RV.lt_irrefl] at this; cases this
    subst hn
    rw [Int.add_zero, if_neg hx.1]
    show out ++ (x :: b.drop (k + 1)) = (out ++ [x]) ++ b.drop (k + 1)
    simp
  | false =>
    have h0 : cmpR x.t r = 0 := (cmpR_zero _ _).2 he
    have hm : moreI x n = ⟨x.t, x.n + n⟩ := by unfold moreI; rw [if_pos hf]
    show out ++ mergedI (x :: b.drop (k + 1)) [⟨r, n⟩] = _
    by_cases hz : x.n + n = 0
    · rw [if_pos hz, mergedI_no (x := x) (y := ⟨r, n⟩) _ _ h0 (by show (moreI x n).n = 0; rw [hm]; exact hz), mergedI_nil]
      rfl
    · rw [if_neg hz, mergedI_one (x := x) (y := ⟨r, n⟩) _ _ h0 (by show ¬ (moreI x n).n = 0; rw [hm]; exact hz), mergedI_nil]
      show out ++ (moreI x n :: b.drop (k + 1)) = _
      rw [hm]
      simp [restA]
/-- it is the one, and it does not fit: all stays -/
theorem add_stays (hb : goodI b) (h : AddInv b r n k out d) (hk : k < b.length) (he : (b[k]!).t = r) (hf : fitsN ((b[k]!).n + n) = false) : (if n = 0 then b else mergedI b [⟨r, n⟩]) = b := by
  have e := drop_get hk
  have hres := h.res
  have hopen := h.open_
  have hdone := h.done
  have hg := good_drop hb k
  have htd := List.take_append_drop k b
  rw [e] at hres hg hdone htd
  generalize b[k]! = x at *
  have hx := (IV.ok_iff x).1 (hg.1 x (by simp))
  cases d with
  | true =>
    rcases hdone rfl with q | q
    · rw [if_pos q]
    · have := q x (by simp)
      rw [he, RV.lt_irrefl] at this; cases this
  | false =>
    have h0 : cmpR x.t r = 0 := (cmpR_zero _ _).2 he
    have hm : moreI x n = x := by unfold moreI; rw [if_neg (by rw [hf]; simp)]
    rw [hres]
    show out ++ mergedI (x :: b.drop (k + 1)) [⟨r, n⟩] = _
    rw [mergedI_one (x := x) (y := ⟨r, n⟩) _ _ h0 (by show ¬ (moreI x n).n = 0; rw [hm]; exact hx.1), mergedI_nil]
    show out ++ (moreI x n :: b.drop (k + 1)) = _
    rw [hm, (hopen rfl).2]
    exact htd
theorem add_end (h : AddInv b r n k out d) (hk : b.length ≤ k) : (if n = 0 then b else mergedI b [⟨r, n⟩]) = if d = true then out else out ++ [⟨r, n⟩] := by
  have hres := h.res
  rw [List.drop_eq_nil_of_le hk] at hres
  rw [hres]
  cases d with
  | true => simp [restA]
  | false => simp [restA, nil_mergedI]
end
theorem addI_not {b : List IV} (r : RV) (n : Int) (h : rightI b = false) : addI b r n = b := by
  unfold addI plusI; rw [if_neg (by rw [h]; simp)]
theorem addI_unfit {b : List IV} (r : RV) {n : Int} (h : fitsN n = false) : addI b r n = b := by
  unfold addI plusI
  rw [if_neg]
  rintro ⟨_, h2⟩
  have := ((rightI_iff _).1 h2).1 ⟨r, n⟩ (by simp)
  rw [IV.ok_iff] at this
  rw [(fitsN_iff n).2 this.2] at h
  cases h
theorem addI_fit {b : List IV} (r : RV) {n : Int} (hb : rightI b = true) (h : fitsN n = true) : addI b r n = if n = 0 then b else mergedI b [⟨r, n⟩] := by
  unfold addI plusI
  by_cases hn : n = 0
  · rw [if_pos hn, if_neg]
    rintro ⟨_, h2⟩
    have := ((rightI_iff _).1 h2).1 ⟨r, n⟩ (by simp)
    rw [IV.ok_iff] at this
    exact this.1 hn
  · rw [if_neg hn, if_pos]
    refine ⟨hb, (rightI_iff _).2 ⟨fun c hc => ?_, List.pairwise_singleton _ _⟩⟩
    simp at hc; subst hc
    exact (IV.ok_iff _).2 ⟨hn, (fitsN_iff n).1 h⟩
end Go.Proofs.YthhceggcdaljdaaGreat
