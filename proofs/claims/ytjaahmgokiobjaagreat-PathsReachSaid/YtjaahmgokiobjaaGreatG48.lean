/- the program's Ahead -/
import Derived.Test.YtjaahmgokiobjaaGreatG42
import Derived.Test.YtjaahmgokiobjaaGreatG45
namespace Go.Proofs.YtjaahmgokiobjaaGreat
open Go.RowKit
set_option linter.unusedVariables false
set_option linter.unusedSimpArgs false
attribute [local go_sem ↓] loadHs storeH
attribute [local simp] size_setRow
attribute [local go_sem] rowAt_head rowOf_alloc_at rowOf_alloc_past rowOf_drew rowOf_drewN rowOf_setRow_same rowOf_setRow_other rowOf_setCell_same rowOf_setCell_other size_setRow setRow_drew setRow_alloc_at setRow_alloc_past one_int one_bool cell_setRow_same cell_setRow_other frozen_setRow_same frozen_setRow_other
attribute [local go_sem] HV.enc

theorem boxed_rowS {w : World} {k : Nat} {c : Array Value} {t : TypeId} (h : Boxed w k c t) : rowOf w k = some c := by
  unfold Boxed at h
  unfold rowOf
  rw [h]
  simp
theorem atTi {w : World} {b off : Nat} {xs : List TV} (h : RTi.Row w b off xs) (j : Nat) (hj : j < xs.length) :
    w.cell? ⟨b, off + j * 5, none⟩ = some (.int .i64 xs[j]!.d) ∧ w.cell? ⟨b, off + j * 5 + 1, none⟩ = some (.int .i64 xs[j]!.c0) ∧ w.cell? ⟨b, off + j * 5 + 2, none⟩ = some (.int .i64 xs[j]!.c1) ∧ w.cell? ⟨b, off + j * 5 + 3, none⟩ = some (.int .i64 xs[j]!.c2) ∧ w.cell? ⟨b, off + j * 5 + 4, none⟩ = some (.int .i64 xs[j]!.c3) :=
  ⟨h j hj 0 _ rfl, h j hj 1 _ rfl, h j hj 2 _ rfl, h j hj 3 _ rfl, h j hj 4 _ rfl⟩
/-- one more timestamp, if it comes -/
theorem ap_take (h : HV) {ts : List TV} {i : Nat} (hi : i < ts.length) (A : List TV) : A ++ (ts.take (i + 1)).flatMap (apL h) = (A ++ (ts.take i).flatMap (apL h)) ++ apL h ts[i]! := by
  rw [flat_take _ hi, List.append_assoc]
theorem own_boxT (W : World) (y : TV) (tt : TypeId) : RTi.Is (W.alloc (.cells #[.int .i64 y.d, .int .i64 y.c0, .int .i64 y.c1, .int .i64 y.c2, .int .i64 y.c3] tt)) (.slice (some ⟨W.heap.size, 0, none⟩) 1 1) [y] :=
  .inr ⟨by simp, W.heap.size, 0, 1, rfl, by simp, RowKind.Row.new (R := RTi) W y tt⟩
set_option maxRecDepth 100000 in
set_option maxHeartbeats 40000000 in
theorem pahead_u {w : World} {bt N : Nat} {rws : Nat → Nat → List HV} (T : TabW w bt N rws) (hN : N ≤ 900000) (m : Int) (pts : List (List TV)) (v : Value) (hp : IsPts w v pts) (hS : ∀ n : Int, (stepsZ rws N n m).length ≤ 10985000) (hl : pts.length ≤ 40) (ht : ∀ n, n < pts.length → List.length pts[n]! ≤ 40) :
    Calls Tryz.prog 10 #[.slice (some ⟨bt, 0, none⟩) N N, v, .int .i64 m] w (MadeT (ofT (comeP (fun n => stepsZ rws N (n : Int) m) pts pts.length)) w) := by
  have HSt := Lib.hid (fun n : Int => tab_steps T hN n m)
  obtain ⟨p, c, rfl, ho⟩ := hp.opened
  have HO := Lib.hid ho
  have HAp := Lib.hid (fun h t W => japply_any h t W)
  generalize hS0 : (fun n : Nat => stepsZ rws N (n : Int) m) = S
  have HSz : Hid (∀ n : Nat, S n = stepsZ rws N (n : Int) m) := fun n => by rw [← hS0]
  clear hS0
  have HSl : Hid (∀ n : Nat, (S n).length ≤ 10985000) := fun n => by rw [HSz.out]; exact hS n
  have HTl := Lib.hid ht
  have HCs := Lib.hid (comeP_succ S pts)
  have HCl : Hid (∀ k, k ≤ pts.length → (comeP S pts k).length ≤ 17576000000) := fun k hk => comeP_len HSl.out hl ht hk
  have HFin : Hid (∀ W u, RTi.Is W u (comeP S pts pts.length) → Calls Tryz.prog 23 #[u] W (MadeT (ofT (comeP S pts pts.length)) W)) := fun W u h => of_any _ u W (by have := HCl.out pts.length (Nat.le_refl _); omega) h
  have HC0 : Hid (comeP S pts 0 = []) := rfl
  generalize ofT (comeP S pts pts.length) = res at *
  clear hp ho hS ht T
  go_enter Tryz.func10, Tryz.ntmps10
  go_wp2_with fail
  go_loopg [7, 18] pts.length (fun gg cv iv wr => ∃ k : Nat, k ≤ pts.length ∧ pts.length - k ≤ gg ∧ iv = .int .i64 (k : Int) ∧ Hid (RTi.Own w.heap.size wr cv (comeP S pts k)) ∧ Hid (Below w.heap.size w wr))
  case atStart => exact ⟨0, Nat.zero_le _, by omega, rfl, by rw [HC0.out]; exact RowKind.Own.nil RTi _ _, Below.refl _ _⟩
  case round =>
    obtain ⟨k, hk, hg, rfl, HA, HB⟩ := hrel
    rename World => wo
    by_cases hlt : k < pts.length
    · have hkz : (k : Int) < (pts.length : Int) := by omega
      obtain ⟨b, off, q, d, rfl, hI, hcel⟩ := HO.out k hlt
      have hc0 := hcel wo HB.out
      have HI := Lib.hid hI
      have htk := HTl.out k hlt
      have hsk := HSl.out k
      have hck := HCl.out k hk
      have HCk := Lib.hid (HCs.out k)
      obtain ⟨qs, ls, cs, els, his, hst⟩ := HSt.out (k : Int)
      rw [← HSz.out k] at els his
      have HIS := Lib.hid his
      have HST := Lib.hid (hst wo HB.out)
      generalize pts[k]! = ts at *
      generalize hSk : S k = X at *
      generalize comeP S pts k = A at *
      have HAl : Hid (∀ j, (A ++ (X.take j).flatMap fun h => ts.flatMap (apL h)).length ≤ 20000000000) := fun j => by
        have h1 := rows_len hsk htk j
        rw [List.length_append]
        omega
      clear hI hcel his hst hSk
      go_wp2_with fail
      refine (HST.out).mono ?_
      rintro e w3 ⟨rfl, hb3⟩
      have HB3 := Lib.hid (bcall HB.out hb3 HB.out.size)
      have HA3 : Hid (RTi.Own w.heap.size w3 u7 (A ++ (X.take 0).flatMap fun h => ts.flatMap (apL h))) := by
        rw [Hid, List.take_zero, List.flatMap_nil, List.append_nil]
        exact HA.out.below hb3
      subst els
      clear hb3 HST HA HB hc0 HSt HO HTl HSl HCl HFin HC0 HSz HCs
      go_wp2_with fail
      go_loopg [7, 28] X.length (fun g2 cv jv wr => ∃ j : Nat, j ≤ X.length ∧ X.length - j ≤ g2 ∧ jv = .int .i64 (j : Int) ∧ Hid (RTi.Own w.heap.size wr cv (A ++ (X.take j).flatMap fun h => ts.flatMap (apL h))) ∧ Hid (Below w.heap.size w wr))
      case atStart => exact ⟨0, Nat.zero_le _, by omega, rfl, HA3.out, HB3.out⟩
      case round =>
        obtain ⟨j, hj, hg2, rfl, HA4, HB4⟩ := hrel
        rename World => w4
        clear HA3 HB3
        by_cases hjt : j < X.length
        · have hjz : (j : Int) < (X.length : Int) := by omega
          obtain ⟨pq, cq, eq1, hop⟩ := RowKind.Is.opened HIS.out
          simp only [Value.slice.injEq] at eq1
          obtain ⟨rfl, _, rfl⟩ := eq1
          obtain ⟨bh, oh, rfl, hbh, hrh⟩ := hop j hjt
          have E1 := hop_elem hrh hbh HB4.out j hjt
          have HF2 := Lib.hid (flat_take (fun h => ts.flatMap (apL h)) hjt)
          have hal := HAl.out j
          generalize X[j]! = h at *
          generalize hA1 : A ++ (X.take j).flatMap (fun h => ts.flatMap (apL h)) = A1 at *
          have HNx : Hid (A ++ (X.take (j + 1)).flatMap (fun h => ts.flatMap (apL h)) = A1 ++ ts.flatMap (apL h)) := by
            rw [Hid, HF2.out, ← List.append_assoc, hA1]
          clear hop hrh HF2 hA1
          go_upto_region 8 with (fail)
          refine gen_world (fun W3 => Below w4.heap.size w4 W3 ∧ Boxed W3 w4.heap.size (hvRow h) 55) ⟨by first | exact (Below.refl _ _).alloc (Nat.le_refl _) _ | go_grown, by first | exact heap_alloc_new _ _ | skip⟩ ?_
          rintro w5 ⟨hb5, hx5⟩
          have HB5 := Lib.hid (bcall HB4.out hb5 HB4.out.size)
          have HA5 : Hid (RTi.Own w.heap.size w5 u7 (A1 ++ (ts.take 0).flatMap (apL h))) := by
            rw [Hid, List.take_zero, List.flatMap_nil, List.append_nil]
            exact HA4.out.below hb5
          have HX5 := Lib.hid hx5
          generalize w4.heap.size = bx at *
          clear E1 hb5 hx5 HA4 HB4
          go_wp2_with fail
          go_loopg [7, 34] ts.length (fun g3 cv iv wr => ∃ i : Nat, i ≤ ts.length ∧ ts.length - i ≤ g3 ∧ iv = .int .i64 (i : Int) ∧ Hid (RTi.Own w.heap.size wr cv (A1 ++ (ts.take i).flatMap (apL h))) ∧ Hid (Boxed wr bx (hvRow h) 55) ∧ Hid (Below w.heap.size w wr))
          case atStart => exact ⟨0, Nat.zero_le _, by omega, rfl, HA5.out, HX5.out, HB5.out⟩
          case round =>
            obtain ⟨i, hi, hg3, rfl, HA6, HX6, HB6⟩ := hrel
            rename World => w6
            clear HA5 HX5 HB5
            by_cases hit : i < ts.length
            · have hiz : (i : Int) < (ts.length : Int) := by omega
              obtain ⟨pt, ct, eq1, hop⟩ := RowKind.Is.opened HI.out
              simp only [Value.slice.injEq] at eq1
              obtain ⟨rfl, _, rfl⟩ := eq1
              obtain ⟨b2, o2, rfl, hbt, hrt⟩ := hop i hit
              obtain ⟨e0, e1, e2, e3, e4⟩ := atTi (hrt.below HB6.out hbt) i hit
              have HNi := Lib.hid (ap_take h hit A1)
              have hLen : ((A1 ++ (ts.take i).flatMap (apL h)).length + 1) * RTi.bytes ≤ 140737488355328 := by
                have h1 := flat_len (f := apL h) (b := 1) (l := ts.take i) fun t _ => apL_len h t
                have h2 : (ts.take i).length ≤ 40 := by rw [List.length_take]; omega
                rw [List.length_append]
                show _ * 40 ≤ _
                omega
              generalize ts[i]! = t at *
              have HApx := Lib.hid (fun W => HAp.out h t W)
              have hapl : apL h t = if applyOk h t = true then [applyT h t] else [] := rfl
              rw [hapl] at HNi
              generalize A1 ++ (ts.take i).flatMap (apL h) = A2 at *
              generalize applyT h t = x at *
              generalize applyOk h t = ok at *
              have HLen := Lib.hid hLen
              clear hop hrt hapl hLen
              go_upto_region 11 with (fail)
              refine gen_world (fun W3 => Below w6.heap.size w6 W3 ∧ Boxed W3 w6.heap.size #[.int .i64 t.d, .int .i64 t.c0, .int .i64 t.c1, .int .i64 t.c2, .int .i64 t.c3] 29) ⟨by first | exact (Below.refl _ _).alloc (Nat.le_refl _) _ | go_grown, by first | exact heap_alloc_new _ _ | skip⟩ ?_
              rintro wt ⟨hbt2, hxt⟩
              have HBt := Lib.hid (bcall HB6.out hbt2 HB6.out.size)
              have HAt := Lib.hid (HA6.out.below hbt2)
              have HXt := Lib.hid (HX6.out.below hbt2 HX6.out.lt)
              have EX := row_elem (boxed_rowS HXt.out)
              have t0 : wt.cell? ⟨w6.heap.size, 0, none⟩ = some (.int .i64 t.d) := hxt.cell 0
              have t1 : wt.cell? ⟨w6.heap.size, 1, none⟩ = some (.int .i64 t.c0) := hxt.cell 1
              have t2 : wt.cell? ⟨w6.heap.size, 2, none⟩ = some (.int .i64 t.c1) := hxt.cell 2
              have t3 : wt.cell? ⟨w6.heap.size, 3, none⟩ = some (.int .i64 t.c2) := hxt.cell 3
              have t4 : wt.cell? ⟨w6.heap.size, 4, none⟩ = some (.int .i64 t.c3) := hxt.cell 4
              clear e0 e1 e2 e3 e4 hbt2 hxt HA6 HX6 HB6
              go_wp2_with fail
              refine (HApx.out _).mono ?_
              rintro e w7 ⟨rfl, hb7⟩
              have HB7 : Hid (Below w.heap.size w w7) := bcall HBt.out hb7 HBt.out.size
              have HA7 := Lib.hid (HAt.out.below hb7)
              have HX7 := Lib.hid (HXt.out.below hb7 HXt.out.lt)
              clear t0 t1 t2 t3 t4 EX hb7 HApx HAt HXt HBt
              go_upto_region 12 with (fail)
              refine gen_world (fun W3 => Below w7.heap.size w7 W3 ∧ Boxed W3 w7.heap.size #[.int .i64 x.d, .int .i64 x.c0, .int .i64 x.c1, .int .i64 x.c2, .int .i64 x.c3] 29) ⟨by first | exact (Below.refl _ _).alloc (Nat.le_refl _) _ | go_grown, by first | exact heap_alloc_new _ _ | skip⟩ ?_
              rintro w8 ⟨hb8, hx8⟩
              have HB8 := Lib.hid (bcall HB7.out hb8 HB7.out.size)
              have HA8 := Lib.hid (HA7.out.below hb8)
              have HX8 := Lib.hid (HX7.out.below hb8 HX7.out.lt)
              have hz8 := HB8.out.size
              cases ok
              · have HN0 : Hid (A1 ++ (ts.take (i + 1)).flatMap (apL h) = A2) := by
                  have q := HNi.out
                  rw [if_neg (by decide), List.append_nil] at q
                  exact q
                clear hb8 hx8 HNi HB7 HA7 HX7
                go_wp2
                go_roundg (ts.length - (i + 1))
                case measure => omega
                case rel => exact ⟨i + 1, by omega, by omega, by go_num, by rw [HN0.out]; exact HA8.out, HX8.out, HB8.out⟩
              · have HN1 : Hid (A1 ++ (ts.take (i + 1)).flatMap (apL h) = A2 ++ [x]) := by
                  have q := HNi.out
                  rw [if_pos rfl] at q
                  exact q
                have x0 : w8.cell? ⟨w7.heap.size, 0, none⟩ = some (.int .i64 x.d) := hx8.cell 0
                have x1 : w8.cell? ⟨w7.heap.size, 1, none⟩ = some (.int .i64 x.c0) := hx8.cell 1
                have x2 : w8.cell? ⟨w7.heap.size, 2, none⟩ = some (.int .i64 x.c1) := hx8.cell 2
                have x3 : w8.cell? ⟨w7.heap.size, 3, none⟩ = some (.int .i64 x.c2) := hx8.cell 3
                have x4 : w8.cell? ⟨w7.heap.size, 4, none⟩ = some (.int .i64 x.c3) := hx8.cell 4
                have HAp8 := Lib.hid (own_boxT w8 x 29)
                have HA9 := Lib.hid (HA8.out.alloc (.cells #[.int .i64 x.d, .int .i64 x.c0, .int .i64 x.c1, .int .i64 x.c2, .int .i64 x.c3] 29))
                have HX9 := Lib.hid (HX8.out.alloc (.cells #[.int .i64 x.d, .int .i64 x.c0, .int .i64 x.c1, .int .i64 x.c2, .int .i64 x.c3] 29))
                have HB9 : Hid (Below w.heap.size w (w8.alloc (.cells #[.int .i64 x.d, .int .i64 x.c0, .int .i64 x.c1, .int .i64 x.c2, .int .i64 x.c3] 29))) := HB8.out.alloc hz8 _
                have hz9 := HB9.out.size
                clear hb8 hx8 HNi HB7 HA7 HX7 HA8 HX8
                go_wp2_with (at_builtin; refine RowKind.Own.appendAnyBL (R := RTi) (ys := [x]) (by decide) rfl _ _ rfl HA9.out rfl rfl HAp8.out HLen.out hz9 ?_; intro v6 w9 hO6 hG6 _; have HO6 := Lib.hid hO6; have HX6 : Hid (Boxed w9 bx (hvRow h) 55) := (hG6.block bx HX9.out.lt (HA9.out.ne_boxed HX9.out (by decide))).trans HX9.out; have HB6 : Hid (Below w.heap.size w w9) := HB9.out.grown hG6 hz9 (fun q hq => (HA9.out.lt q hq).1); clear hO6 hG6)
                go_roundg (ts.length - (i + 1))
                case measure => omega
                case rel => exact ⟨i + 1, by omega, by omega, by go_num, by rw [HN1.out]; exact HO6.out, HX6.out, HB6.out⟩
            · obtain rfl : i = ts.length := by omega
              rw [List.take_length] at HA6
              go_wp2
              go_roundg (X.length - (j + 1))
              case measure => omega
              case rel => exact ⟨j + 1, by omega, by omega, by go_num, by rw [HNx.out]; exact HA6.out, HB6.out⟩
        · obtain rfl : j = X.length := by omega
          rw [List.take_length] at HA4
          go_wp2
          go_roundg (pts.length - (k + 1))
          case measure => omega
          case rel => exact ⟨k + 1, by omega, by omega, by go_num, by rw [HCk.out]; exact HA4.out, HB4.out⟩
    · obtain rfl : k = pts.length := by omega
      have HIf := Lib.hid HA.out.is
      go_wp2_with fail
      refine (HFin.out _ _ HIf.out).mono ?_
      rintro e w2 ⟨v2, rfl, hO2, hb2⟩
      have HO2 := Lib.hid (hO2.mono HB.out.size)
      have HB2 := Lib.hid (bcall HB.out hb2 HB.out.size)
      clear hO2 hb2
      go_wp2
      go_returns
      exact ⟨_, rfl, HO2.out, HB2.out⟩
end Go.Proofs.YtjaahmgokiobjaaGreat
namespace Go.Proofs.YtjaahmgokiobjaaGreat
open Go.RowKit
set_option linter.unusedVariables false
set_option linter.unusedSimpArgs false

/- the document's Of, as plain facts: each timestamp is held against all others, and put into its place -/
def badAt (xs : List TV) (i m : Nat) : Bool := (!eqT xs[m]! xs[i]! && (xs[m]!).le xs[i]!) || (decide (m < i) && eqT xs[m]! xs[i]!)
def lowToC (xs : List TV) (i k : Nat) : Bool := (xs[i]!).ok && !((List.range k).any (badAt xs i))
theorem lowTo_zero (xs : List TV) (i : Nat) : lowToC xs i 0 = (xs[i]!).ok := by simp [lowToC]
theorem lowTo_succ (xs : List TV) (i k : Nat) : lowToC xs i (k + 1) = (lowToC xs i k && !badAt xs i k) := by
  simp only [lowToC, List.range_succ, List.any_append, List.any_cons, List.any_nil, Bool.or_false]
  cases (xs[i]!).ok <;> cases (List.range k).any (badAt xs i) <;> cases badAt xs i k <;> rfl
theorem lowToC_iff {xs : List TV} {i k : Nat} : lowToC xs i k = true ↔ (xs[i]!).ok = true ∧ ∀ m, m < k → (xs[m]! ≠ xs[i]! → (xs[m]!).le xs[i]! = false) ∧ (m < i → xs[m]! ≠ xs[i]!) := by
  simp only [lowToC, Bool.and_eq_true, Bool.not_eq_true', List.any_eq_false, List.mem_range]
  constructor
  · rintro ⟨h1, h2⟩
    refine ⟨h1, fun m hm => ?_⟩
    have h := h2 m hm
    simp only [badAt, eqT, Bool.or_eq_true, Bool.and_eq_true, Bool.not_eq_true', decide_eq_true_eq, decide_eq_false_iff_not, not_or, not_and, Bool.not_eq_true] at h
    exact ⟨fun e => h.1 e, fun hl e => h.2 hl e⟩
  · rintro ⟨h1, h2⟩
    refine ⟨h1, fun m hm => ?_⟩
    have h := h2 m hm
    simp only [badAt, eqT, Bool.or_eq_true, Bool.and_eq_true, Bool.not_eq_true', decide_eq_true_eq, decide_eq_false_iff_not, not_or, not_and, Bool.not_eq_true]
    exact ⟨fun e => h.1 e, fun hl e => h.2 hl e⟩
/-- what has been gathered of the first i -/
structure Gat (xs : List TV) (i : Nat) (out : List TV) : Prop where
  s : strict out
  m : ∀ t, t ∈ out ↔ ∃ j, j < i ∧ xs[j]! = t ∧ lowToC xs j xs.length = true
theorem Gat.zero (xs : List TV) : Gat xs 0 [] := ⟨List.Pairwise.nil, fun t => ⟨fun h => (by cases h), fun ⟨j, h, _⟩ => (by omega)⟩⟩
theorem Gat.skip {xs : List TV} {i : Nat} {out : List TV} (h : Gat xs i out) (hl : lowToC xs i xs.length = false) : Gat xs (i + 1) out := by
  refine ⟨h.s, fun t => ?_⟩
  rw [h.m t]
  constructor
  · rintro ⟨j, h1, h2, h3⟩; exact ⟨j, by omega, h2, h3⟩
  · rintro ⟨j, h1, h2, h3⟩
    rcases Nat.lt_or_ge j i with q | q
    · exact ⟨j, q, h2, h3⟩
    · obtain rfl : j = i := by omega
      rw [hl] at h3; cases h3
theorem Gat.len {xs : List TV} {i : Nat} {out : List TV} (h : Gat xs i out) (hi : i < xs.length) (hl : lowToC xs i xs.length = true) : ∀ y ∈ out, y ≠ xs[i]! ∧ y.le xs[i]! = false ∧ (xs[i]!).le y = false ∧ y.ok = true := by
  intro y hy
  obtain ⟨j, h1, rfl, h3⟩ := (h.m y).1 hy
  have a := (lowToC_iff.1 hl).2 j (by omega)
  have b := (lowToC_iff.1 h3).2 i hi
  have e := a.2 h1
  exact ⟨e, a.1 e, b.1 (fun q => e q.symm), (lowToC_iff.1 h3).1⟩
theorem strict_keys {l : List TV} (h : strict l) {a b : Nat} (hab : a < b) (hb : b < l.length) : (l[a]!).key < (l[b]!).key := by
  have := (List.pairwise_iff_getElem.1 h a b (by omega) hb hab).1
  rw [getElem!_pos l a (by omega), getElem!_pos l b hb]
  exact ((TV.lt_iff _ _).1 this).2.2
theorem Gat.put {xs : List TV} {i : Nat} {out : List TV} (h : Gat xs i out) (hi : i < xs.length) (hl : lowToC xs i xs.length = true) {k : Nat} (hk : k ≤ out.length) (hd : ∀ y ∈ out.drop k, (xs[i]!).lt y = true)
    (hs : k = 0 ∨ (xs[i]!).lt out[k - 1]! = false) : Gat xs (i + 1) (out.take k ++ xs[i]! :: out.drop k) := by
  have hx := (lowToC_iff.1 hl).1
  have hn := h.len hi hl
  refine ⟨?_, fun t => ?_⟩
  · have hall : strict (out.take k ++ out.drop k) := by rw [List.take_append_drop]; exact h.s
    rw [strict, List.pairwise_append] at hall ⊢
    refine ⟨hall.1, List.pairwise_cons.2 ⟨fun y hy => ⟨hd y hy, (hn y (List.mem_of_mem_drop hy)).2.2.1⟩, hall.2.1⟩, ?_⟩
    intro a ha b hb
    rcases List.mem_cons.1 hb with e | hb
    · subst e
      obtain ⟨ne, l1, l2, ok⟩ := hn a (List.mem_of_mem_take ha)
      refine ⟨?_, l1⟩
      rw [TV.lt_iff]
      refine ⟨ok, hx, ?_⟩
      have hk0 : k ≠ 0 := fun e => by subst e; simp at ha
      have hlast := hs.resolve_left hk0
      have hkl : k - 1 < out.length := by omega
      have hmem : out[k - 1]! ∈ out := by rw [getElem!_pos out (k - 1) hkl]; exact List.getElem_mem hkl
      have hle := (lt_false (hn _ hmem).2.2.2 hx).1 hlast
      obtain ⟨j, hj, e⟩ := List.mem_iff_getElem.1 ha
      have hj' : j < k := by rw [List.length_take] at hj; omega
      have ea : a = out[j]! := by rw [getElem!_pos out j (by omega), ← e, List.getElem_take]
      have hjk : (out[j]!).key ≤ (out[k - 1]!).key := by
        rcases Nat.lt_or_ge j (k - 1) with q | q
        · exact Int.le_of_lt (strict_keys h.s q hkl)
        · obtain rfl : j = k - 1 := by omega
          exact Int.le_refl _
      rw [← ea] at hjk
      rcases Int.lt_or_eq_of_le (Int.le_trans hjk hle) with q | q
      · exact q
      · exact absurd (TV.key_inj ok hx q) ne
    · exact hall.2.2 a ha b hb
  · have hm : t ∈ out.take k ++ xs[i]! :: out.drop k ↔ t = xs[i]! ∨ t ∈ out := by
      constructor
      · intro q
        rcases List.mem_append.1 q with q | q
        · exact .inr (List.mem_of_mem_take q)
        · rcases List.mem_cons.1 q with q | q
          · exact .inl q
          · exact .inr (List.mem_of_mem_drop q)
      · rintro (q | q)
        · exact List.mem_append.2 (.inr (by rw [q]; simp))
        · rw [← List.take_append_drop k out] at q
          rcases List.mem_append.1 q with q | q
          · exact List.mem_append.2 (.inl q)
          · exact List.mem_append.2 (.inr (List.mem_cons_of_mem _ q))
    rw [hm, h.m t]
    constructor
    · rintro (q | ⟨j, h1, h2, h3⟩)
      · exact ⟨i, by omega, q.symm, hl⟩
      · exact ⟨j, by omega, h2, h3⟩
    · rintro ⟨j, h1, h2, h3⟩
      rcases Nat.lt_or_ge j i with q | q
      · exact .inr ⟨j, q, h2, h3⟩
      · obtain rfl : j = i := by omega
        exact .inl h2.symm
theorem first_at (p : Nat → Prop) [DecidablePred p] : ∀ n, (∃ j, j < n ∧ p j) → ∃ j, j < n ∧ p j ∧ ∀ m, m < j → ¬ p m
  | 0, ⟨j, h, _⟩ => by omega
  | n + 1, ⟨j, h, hp⟩ => by
    by_cases q : ∃ j, j < n ∧ p j
    · obtain ⟨a, b, c, d⟩ := first_at p n q
      exact ⟨a, by omega, c, d⟩
    · refine ⟨j, h, hp, fun m hm hq => q ⟨m, by omega, hq⟩⟩
theorem get_mem {xs : List TV} {j : Nat} (h : j < xs.length) : xs[j]! ∈ xs := by rw [getElem!_pos xs j h]; exact List.getElem_mem h
theorem Gat.all {xs out : List TV} (h : Gat xs xs.length out) : out = ofT xs := by
  refine strict_ext h.s (ofT_strict xs) fun t => ?_
  rw [h.m t, ofT_char]
  constructor
  · rintro ⟨j, h1, rfl, h3⟩
    have q := lowToC_iff.1 h3
    refine ⟨q.1, cov_iff.2 ⟨_, get_mem h1, TV.le_refl q.1⟩, fun s hs hl => ?_⟩
    obtain ⟨r, hr, hrs⟩ := cov_iff.1 hs
    obtain ⟨m, hm, e⟩ := List.mem_iff_getElem.1 hr
    have em : xs[m]! = r := by rw [getElem!_pos xs m hm, e]
    have hrt := TV.le_trans hrs hl
    by_cases ne : xs[m]! = xs[j]!
    · rw [← em, ne] at hrs
      exact TV.le_antisymm hl hrs
    · have := (q.2 m hm).1 ne
      rw [em, hrt] at this
      cases this
  · rintro ⟨h1, h2, h3⟩
    have ht : t ∈ xs := (ofT_mem (ofT_char.2 ⟨h1, h2, h3⟩)).1
    obtain ⟨m, hm, e⟩ := List.mem_iff_getElem.1 ht
    obtain ⟨j, hj, ej, hf⟩ := first_at (fun j => xs[j]! = t) xs.length ⟨m, hm, by rw [getElem!_pos xs m hm, e]⟩
    refine ⟨j, hj, ej, lowToC_iff.2 ⟨by rw [ej]; exact h1, fun a ha => ⟨fun ne => ?_, fun hl => by rw [ej]; exact hf a hl⟩⟩⟩
    cases q : (xs[a]!).le xs[j]!
    · rfl
    · rw [ej] at q ne
      exact absurd (h3 _ (cov_iff.2 ⟨_, get_mem ha, TV.le_refl (TV.le_left q)⟩) q) ne
end Go.Proofs.YtjaahmgokiobjaaGreat
