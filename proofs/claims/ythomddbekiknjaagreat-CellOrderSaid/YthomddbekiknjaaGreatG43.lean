/- the program's Come, in general; Stale -/
import Derived.Test.YthomddbekiknjaaGreatG42
import Derived.Test.YthomddbekiknjaaGreatG41
import Derived.Test.YthomddbekiknjaaGreatG37
import Derived.Deep.CutRange
import Derived.Test.YthomddbekiknjaaGreatRows
import Derived.WalkKit
import Derived.ProofKit
import Derived.OpenShut
import Derived.Carry
import Derived.ChangeSame
import Derived.Test.YthomddbekiknjaaGreatG01
import Derived.Deep.Slices
namespace Go.Proofs.YthomddbekiknjaaGreat
open Go.RowKit
set_option linter.unusedVariables false
set_option linter.unusedSimpArgs false

theorem pcome_any (c : List SV) (v : Value) (kind port : Int) (t : TV) (r : RV) (n : Int) (w : World) (hs : SmallC 100000 c) (h : IsCl w v c) : Calls Tryz.prog 8 #[v, .int .i64 kind, .int .i64 port, TV.val t, RV.val r, .int .i64 n] w (ComeR c kind port t r n w) := by
  by_cases q0 : port < 0
  · exact pcome_bad0 c v kind port t r n w hs h q0
  by_cases q1 : 1 < port
  · exact pcome_bad1 c v kind port t r n w hs h q0 q1
  by_cases q2 : n = 0
  · exact pcome_bad2 c v kind port t r n w hs h q0 q1 q2
  by_cases q3 : n < -2147483648
  · exact pcome_bad3 c v kind port t r n w hs h q0 q1 q2 q3
  by_cases q4 : 2147483648 < n
  · exact pcome_bad4 c v kind port t r n w hs h q0 q1 q2 q3 q4
  have hp : port = 0 ∨ port = 1 := by omega
  rcases hp with rfl | rfl
  · exact pcome_good0 c v kind t r n w hs h q2 q3 q4
  · exact pcome_good1 c v kind t r n w hs h q2 q3 q4
def StaleR (c : List SV) (w : World) (e : Ending) (w' : World) : Prop := ∃ u, e = .returned u ∧ OwnTT w.heap.size w' u (staleL c) ∧ Below w.heap.size w w'
def staleK (c : List SV) (k : Nat) : List TV := ((c.take k).filter (·.dirty)).map (·.t)
theorem staleK_yes {c : List SV} {k : Nat} (hk : k < c.length) (h : (c[k]!).dirty = true) : staleK c (k + 1) = staleK c k ++ [(c[k]!).t] := by
  unfold staleK
  rw [take_getA c k hk, List.filter_append, List.map_append, List.filter_cons, if_pos h]
  rfl
theorem staleK_no {c : List SV} {k : Nat} (hk : k < c.length) (h : (c[k]!).dirty = false) : staleK c (k + 1) = staleK c k := by
  unfold staleK
  rw [take_getA c k hk, List.filter_append, List.map_append, List.filter_cons, if_neg (by rw [h]; decide)]
  simp
theorem staleK_len (c : List SV) (k : Nat) : (staleK c k).length ≤ c.length := by
  unfold staleK
  rw [List.length_map]
  exact Nat.le_trans (List.length_filter_le _ _) (by rw [List.length_take]; omega)
set_option maxRecDepth 100000 in
set_option maxHeartbeats 16000000 in
theorem pstale_any (c : List SV) (v : Value) (w : World) (hs : SmallC 900000 c) (h : IsCl w v c) : Calls Tryz.prog 18 #[v] w (StaleR c w) := by
  have HR := Lib.hid (prightC_any c v w hs h)
  obtain ⟨xs, hx0, hx1⟩ := h
  have HAr := Lib.hid hx1
  obtain ⟨p, k0, rfl, ho⟩ := isOpenedD hx0
  have HO := Lib.hid ho
  have hxn : xs.length = c.length := hx1.1
  have hsz : c.length ≤ 900000 := hs.1
  rw [hxn] at HO HR ⊢
  have HF : Hid (∀ u W, OwnTT w.heap.size W u (staleL c) → Below w.heap.size w W → StaleR c w (.returned u) W) := fun u W h1 h2 => ⟨u, rfl, h1, h2⟩
  have HN : Hid (rightSl c = false → staleL c = []) := fun h => by unfold staleL; rw [if_neg (by rw [h]; decide)]
  have HY : Hid (rightSl c = true → staleL c = staleK c c.length) := fun h => by unfold staleL staleK; rw [if_pos h, List.take_length]
  generalize StaleR c w = R at *
  generalize staleL c = sl at *
  generalize rightSl c = rc at *
  clear hx0 hx1 ho hxn hs
  go_enter Tryz.func18, Tryz.ntmps18
  go_wp2_with fail
  refine (HR.out).mono ?_
  rintro e w1 ⟨rfl, hb1⟩
  have HB1 := Lib.hid hb1
  clear hb1 HR
  cases rc
  · have HX := Lib.hid (HF.out (.slice none 0 0) w1 (by rw [HN.out (by trivial)]; exact OwnTT.nil _ _) HB1.out)
    clear HN HY HF
    go_wp2
    exact HX.out
  · have HSl := Lib.hid (HY.out (by trivial))
    clear HN HY
    go_wp2
    go_loopg [3, 11] c.length (fun gg u i wr => ∃ k : Nat, k ≤ c.length ∧ c.length - k ≤ gg ∧ i = .int .i64 (k : Int) ∧ Hid (Below w.heap.size w wr) ∧ Hid (OwnTT w.heap.size wr u (staleK c k)))
    case atStart => exact ⟨0, Nat.zero_le _, by omega, rfl, HB1.out, OwnTT.nil _ _⟩
    case round =>
      obtain ⟨k, hkn, hg, rfl, HB, HU⟩ := hrel
      by_cases hlt : k < c.length
      · have hlz : (k : Int) < (c.length : Int) := by omega
        obtain ⟨b, off, rfl, hb, hrow⟩ := HO.out k hlt
        have hxl : xs.length = c.length := HAr.out.1
        obtain ⟨e0, e1, e2, e3, e4, e5, e6, e7, e8, e9⟩ := atSl (hrow.below HB.out hb) k (by omega)
        have hxk := HAr.out.2 k hlt
        have HYe := Lib.hid (fun h => staleK_yes (c := c) (k := k) hlt h)
        have HNe := Lib.hid (fun h => staleK_no (c := c) (k := k) hlt h)
        rw [← hxk.t, ← hxk.d] at HYe
        rw [← hxk.d] at HNe
        have HKl := Lib.hid (staleK_len c k)
        generalize xs[k]! = x at *
        obtain ⟨⟨td, t0, t1, t2, t3⟩, p0, n0, c0, p1, n1, c1, p2, n2, c2, xd, xf⟩ := x
        dsimp only at e0 e1 e2 e3 e4 e5 e6 e7 e8 e9 HYe HNe
        clear hxk hrow hxl
        go_upto_region 7 with (fail)
        refine gen_world (fun W3 => Below wr.heap.size wr W3 ∧ Boxed W3 wr.heap.size #[.int .i64 td, .int .i64 t0, .int .i64 t1, .int .i64 t2, .int .i64 t3, .slice p0 n0 c0, .slice p1 n1 c1, .slice p2 n2 c2, .bool xd, .bool xf] 40) ⟨by first | exact (Below.refl _ _).alloc (Nat.le_refl _) _ | go_grown, by first | exact heap_alloc_new _ _ | skip⟩ ?_
        rintro w3 ⟨hb3, hx3⟩
        have HBw := Lib.hid (bcall HB.out hb3 HB.out.size)
        have HO1 := Lib.hid (HU.out.below hb3)
        have b0 := hx3.cell 0
        have b1 := hx3.cell 1
        have b2 := hx3.cell 2
        have b3 := hx3.cell 3
        have b4 := hx3.cell 4
        have b8 := hx3.cell 8
        dsimp at b0 b1 b2 b3 b4 b8
        have hz2 : w.heap.size ≤ w3.heap.size := HBw.out.size
        have hlen : (staleK c k).length ≤ 2000000000000 := by have := HKl.out; omega
        generalize wr.heap.size = bx at *
        clear e0 e1 e2 e3 e4 e5 e6 e7 e8 e9 hb3 hx3 HB HU
        cases xd
        · have HK := Lib.hid (HNe.out rfl)
          clear HYe HNe
          go_wp2
          go_roundg (c.length - (k + 1))
          case measure => omega
          case rel => exact ⟨k + 1, by omega, by omega, by go_num, HBw.out, by rw [HK.out]; exact HO1.out⟩
        · have HK := Lib.hid (HYe.out rfl)
          clear HYe HNe
          go_wp2_with (at_builtin; refine OwnTT.push (y := ⟨td, t0, t1, t2, t3⟩) HO1.out HBw.out hz2 rfl _ _ rfl rfl _ rfl hlen ?_; intro v2 w2 hO2 hB2 hz3)
          rw [← HK.out] at hO2
          have HO2 := Lib.hid hO2; have HB2 := Lib.hid hB2
          go_roundg (c.length - (k + 1))
          case measure => omega
          case rel => exact ⟨k + 1, by omega, by omega, by go_num, HB2.out, HO2.out⟩
      · obtain rfl : k = c.length := by omega
        have hlz : ¬ (c.length : Int) < (c.length : Int) := by omega
        have HX := Lib.hid (HF.out u3 wr (by rw [HSl.out]; exact HU.out) HB.out)
        go_wp2
        exact HX.out
end Go.Proofs.YthomddbekiknjaaGreat
/- the law's awake -/
namespace Go.Proofs.YthomddbekiknjaaGreat
open Go.RowKit
set_option linter.unusedVariables false
set_option linter.unusedSimpArgs false

def awT : TV := ⟨1, 0, 0, 0, 0⟩
def awX : SV → List IV := fun x => x.b
def awC2 : List SV := [⟨awT, [⟨⟨1, 2⟩, 1⟩], [], [⟨⟨1, 2⟩, 1⟩], false, true⟩]
def awC3 : List SV := [⟨awT, [⟨⟨1, 2⟩, 1⟩, ⟨⟨1, 3⟩, 1⟩], [], [⟨⟨1, 2⟩, 1⟩], true, true⟩]
def awC1 : List SV := [⟨awT, [⟨⟨1, 2⟩, 1⟩], [], [], true, false⟩]
theorem aw1 : comeOk [] 0 awT 1 = true ∧ comeF [] 6 0 awT ⟨1, 2⟩ 1 = awC1 := ⟨by kernel_rfl, by kernel_rfl⟩
theorem aw2 : (makeX awC1 awT 6 0 [] awX).isSome = true ∧ makeF awC1 awT 6 0 [] awX true = (awC2, ([], [⟨⟨1, 2⟩, 1⟩])) := ⟨by kernel_rfl, by kernel_rfl⟩
theorem aw3 : comeOk awC2 0 awT 1 = true ∧ comeF awC2 6 0 awT ⟨1, 3⟩ 1 = awC3 ∧ lateS awC2 6 0 awT 1 = true := ⟨by kernel_rfl, by kernel_rfl, by kernel_rfl⟩
theorem aw4 : (makeX awC3 awT 6 0 [] awX).isSome = true ∧ (makeF awC3 awT 6 0 [] awX true).2 = ([⟨⟨1, 2⟩, 1⟩], [⟨⟨1, 5⟩, 1⟩]) := ⟨by kernel_rfl, by kernel_rfl⟩
theorem aw_small1 : SmallC 100000 awC1 := ⟨by decide, fun x hx => by rw [List.mem_singleton.1 hx]; decide⟩
theorem aw_small2 : SmallC 100000 awC2 := ⟨by decide, fun x hx => by rw [List.mem_singleton.1 hx]; decide⟩
theorem aw_small3 : SmallC 100000 awC3 := ⟨by decide, fun x hx => by rw [List.mem_singleton.1 hx]; decide⟩
theorem aw_in1 : inCell awC1 := fun x hx => by rw [List.mem_singleton.1 hx]; exact ⟨fun i hi => by rw [List.mem_singleton.1 hi]; decide, fun i hi => by cases hi⟩
theorem aw_in3 : inCell awC3 := fun x hx => by
  rw [List.mem_singleton.1 hx]
  refine ⟨fun i hi => ?_, fun i hi => by cases hi⟩
  rcases List.mem_cons.1 hi with rfl | hi
  · decide
  · rw [List.mem_singleton.1 hi]; decide
theorem aw_node (w : World) : NodeA 6 w none 0 0 [] := ⟨RowKind.Is.nil _, fun h => (by cases h), fun x hx => (by cases hx), by decide⟩
theorem aw_make (c : List SV) (v : Value) (w : World) (hs : SmallC 100000 c) (hin : inCell c) (h : IsCl w v c) : Calls Tryz.prog 27 #[v, .agg #[.int .i64 6, .int .i64 0, .int .i64 0, .slice none 0 0], TV.val awT, .bool true] w (MakeR c awT 6 0 [] awX true w) :=
  pmake_any c v 6 0 0 none 0 [] awT true awX w hs h (aw_node w) fun i hi W hW => pports_one c v i 6 W hs (h.below hW) hi hin (by decide)
set_option maxRecDepth 100000 in
set_option maxHeartbeats 16000000 in
theorem cawake_any (w : World) : Calls Tryz.prog 6 #[] w (Ret (.bool true) w) := by
  have H1 := Lib.hid (fun W => pcome_any [] (.slice none 0 0) 6 0 awT ⟨1, 2⟩ 1 W ⟨Nat.zero_le _, fun x hx => by cases hx⟩ (IsCl.nil W))
  have H2 := Lib.hid (fun W v h => aw_make awC1 v W aw_small1 aw_in1 h)
  have H3 := Lib.hid (fun W v h => pcome_any awC2 v 6 0 awT ⟨1, 3⟩ 1 W aw_small2 h)
  have H4 := Lib.hid (fun W v h => aw_make awC3 v W aw_small3 aw_in3 h)
  have hb0 := ((Below.refl w.heap.size w).alloc (Nat.le_refl _) (.cells #[.int .i64 1, .int .i64 0, .int .i64 0, .int .i64 0, .int .i64 0] 25)).alloc (by simp) (.cells #[.int .i64 6, .int .i64 0, .int .i64 0, .slice none 0 0] 47)
  have hbt := (BT5.new w awT).more (.cells #[.int .i64 6, .int .i64 0, .int .i64 0, .slice none 0 0] 47)
  have hbn := BN4.new (w.alloc (.cells #[.int .i64 1, .int .i64 0, .int .i64 0, .int .i64 0, .int .i64 0] 25)) 6 0 0 none 0 0
  rw [World.size_alloc] at hbn
  go_enter Tryz.func6, Tryz.ntmps6
  go_upto_region 3 with (fail)
  refine gen_world (fun W => Below w.heap.size w W ∧ BT5 W w.heap.size awT ∧ BN4 W (w.heap.size + 1) 6 0 0 none 0 0) ⟨hb0, hbt, hbn⟩ ?_
  rintro w0 ⟨hb0, hbt, hbn⟩
  have HB0 := Lib.hid hb0
  have HT0 := Lib.hid hbt
  have HN0 := Lib.hid hbn
  obtain ⟨t0, t1, t2, t3, t4, tl⟩ := hbt
  obtain ⟨n0, n1, n2, n3, nl⟩ := hbn
  dsimp only [awT] at t0 t1 t2 t3 t4
  clear hb0 
  generalize hbt0 : w.heap.size = bt at *
  have HW := Lib.hid hbt0
  clear hbt0
  go_wp2_with fail
  refine (H1.out _).mono ?_
  rintro e w1 ⟨v1, rfl, hi1, hc1, hb1⟩
  rw [aw1.2] at hi1
  rw [lateS_is, aw1.1]
  have HI1 := Lib.hid hi1
  have HT1 := Lib.hid (HT0.out.below hb1)
  have HN1 := Lib.hid (HN0.out.below hb1)
  have HB1 := Lib.hid (HB0.out.trans (hb1.mono (Nat.le_of_lt HT0.out.l)))
  have HZ1 : Hid (bt < w1.heap.size) := HT1.out.l
  have HM2 := Lib.hid (H2.out w1 v1 HI1.out)
  clear hb1 hi1 hc1 H1 H2 HT0 HN0 HB0 t0 t1 t2 t3 t4 tl n0 n1 n2 n3 nl
  obtain ⟨t0, t1, t2, t3, t4, tl⟩ := HT1.out
  obtain ⟨n0, n1, n2, n3, nl⟩ := HN1.out
  dsimp only [awT] at t0 t1 t2 t3 t4
  go_wp2_with fail
  refine (HM2.out).mono ?_
  rintro e w2 ⟨v2, a2, b2, rfl, hi2, hc2, ha2, hd2, hb2⟩
  rw [aw2.2] at hi2 ha2 hd2
  rw [aw2.1]
  dsimp only at hi2 ha2 hd2
  have HI2 := Lib.hid hi2
  have HT2 := Lib.hid (HT1.out.below hb2)
  have HN2 := Lib.hid (HN1.out.below hb2)
  have HB2 := Lib.hid (HB1.out.trans (hb2.mono (Nat.le_of_lt HT1.out.l)))
  have HC3 := Lib.hid (H3.out w2 v2 HI2.out)
  obtain ⟨pa, ca, rfl⟩ := ha2.is.slice
  obtain ⟨pb, cb, rfl⟩ := hd2.is.slice
  clear hb2 hi2 hc2 ha2 hd2 H3 HM2 HT1 HN1 HB1 t0 t1 t2 t3 t4 tl n0 n1 n2 n3 nl HI1
  obtain ⟨t0, t1, t2, t3, t4, tl⟩ := HT2.out
  obtain ⟨n0, n1, n2, n3, nl⟩ := HN2.out
  dsimp only [awT] at t0 t1 t2 t3 t4
  go_wp2_with fail
  refine (HC3.out).mono ?_
  rintro e w3 ⟨v3, rfl, hi3, hc3, hb3⟩
  rw [aw3.2.1] at hi3
  rw [aw3.2.2, aw3.1]
  have HI3 := Lib.hid hi3
  have HT3 := Lib.hid (HT2.out.below hb3)
  have HN3 := Lib.hid (HN2.out.below hb3)
  have HB3 := Lib.hid (HB2.out.trans (hb3.mono (Nat.le_of_lt HT2.out.l)))
  have HM4 := Lib.hid (H4.out w3 v3 HI3.out)
  clear hb3 hi3 hc3 H4 HC3 HT2 HN2 HB2 t0 t1 t2 t3 t4 tl n0 n1 n2 n3 nl HI2
  obtain ⟨t0, t1, t2, t3, t4, tl⟩ := HT3.out
  obtain ⟨n0, n1, n2, n3, nl⟩ := HN3.out
  dsimp only [awT] at t0 t1 t2 t3 t4
  go_wp2_with fail
  refine (HM4.out).mono ?_
  rintro e w4 ⟨v4, a4, b4, rfl, hi4, hc4, ha4, hd4, hb4⟩
  rw [aw4.2] at ha4 hd4
  rw [aw4.1]
  dsimp only at ha4 hd4
  have HB4 := Lib.hid (HB3.out.trans (hb4.mono (Nat.le_of_lt HT3.out.l)))
  obtain ⟨pc, cc, rfl⟩ := ha4.is.slice
  obtain ⟨pd, cd, rfl, ho⟩ := isOpenedD hd4.is
  obtain ⟨g, o, rfl, hg, hrow⟩ := ho 0 (by decide)
  have c1 : w4.cell? ⟨g, o + 1, none⟩ = some (.int .i64 5) := by
    have := hrow 0 (by decide) 1 _ rfl
    simpa using this
  clear hi4 hc4 ha4 hd4 hb4 ho hrow HM4 HT3 HN3 HB3 t0 t1 t2 t3 t4 tl n0 n1 n2 n3 nl HI3
  go_wp2
  go_returns
  exact ⟨rfl, by rw [HW.out]; exact HB4.out⟩
end Go.Proofs.YthomddbekiknjaaGreat
/- CellC holds -/
namespace Go.Proofs.YthomddbekiknjaaGreat
open Go.RowKit
set_option linter.unusedVariables false
set_option linter.unusedSimpArgs false

theorem cellC : CellC := by
  refine ⟨fun c v kind port t r n W hs hi hc => ?_, fun c v W hs hi hc => ?_⟩
  · exact pcome_any c v kind port t r n W (hs.mono (by decide)) hi
  · refine (pstale_any c v W (hs.mono (by decide)) hi).mono ?_
    rintro e w' ⟨u, rfl, h1, h2⟩
    exact ⟨u, rfl, h1.is, h2⟩
end Go.Proofs.YthomddbekiknjaaGreat
/- the document's Empty -/
namespace Go.Proofs.YthomddbekiknjaaGreat
open Go.RowKit
set_option linter.unusedVariables false
set_option linter.unusedSimpArgs false

set_option maxRecDepth 100000 in
set_option maxHeartbeats 4000000 in
/-- a slot by value: is nothing there? -/
theorem cempty_any (x : SW) (w : World) : Calls Tryz.prog 36 #[SW.val x] w (Ret (.bool (decide (x.n0 = 0) && (decide (x.n1 = 0) && decide (x.n2 = 0)))) w) := by
  obtain ⟨⟨td, t0, t1, t2, t3⟩, p0, n0, c0, p1, n1, c1, p2, n2, c2, xd, xf⟩ := x
  dsimp only
  have HB := Lib.hid ((Below.refl w.heap.size w).alloc (Nat.le_refl _) (.cells #[.int .i64 td, .int .i64 t0, .int .i64 t1, .int .i64 t2, .int .i64 t3, .slice p0 n0 c0, .slice p1 n1 c1, .slice p2 n2 c2, .bool xd, .bool xf] 40))
  by_cases h0 : n0 = 0
  · subst h0
    by_cases h1 : n1 = 0
    · subst h1
      by_cases h2 : n2 = 0
      · subst h2
        go_enter Tryz.func36, Tryz.ntmps36
        go_wp2
        go_returns
        exact ⟨rfl, HB.out⟩
      · have d2 : ((n2 : Int) == 0) = false := by simp; omega
        go_enter Tryz.func36, Tryz.ntmps36
        go_wp2
        go_returns
        exact ⟨by simp [h2], HB.out⟩
    · have d1 : ((n1 : Int) == 0) = false := by simp; omega
      go_enter Tryz.func36, Tryz.ntmps36
      go_wp2
      go_returns
      exact ⟨by simp [h1], HB.out⟩
  · have d0 : ((n0 : Int) == 0) = false := by simp; omega
    go_enter Tryz.func36, Tryz.ntmps36
    go_wp2
    go_returns
    exact ⟨by simp [h0], HB.out⟩
end Go.Proofs.YthomddbekiknjaaGreat
namespace Go.Proofs.YthomddbekiknjaaGreat
open Go.ChangeShapes Go.WideShapes Go.ChangeAt Go.RowKit
set_option linter.unusedVariables false

theorem lift_own : ownKnob Tryz.prog.godebug = none := by kernel_rfl
theorem lift_laid : laidOutB Tryz.prog = true := by kernel_rfl

section
variable {H : Type} {enc : TypeId × Value → H} {P : Program}

theorem lift_trod (hl : laidOutB P = true) {W W' : World} (hb : Below W.heap.size W W') (sp : Nat → Bool) : ∀ {ts : List TypeId} {vs : List Value} {ds : List (DataW H)} {ps : List MemPlace},
    (∀ t ∈ ts, P.readableRec t = true ∧ t < P.types.size) → DataW.TrodAll enc P W 0 (fun _ => true) true ts vs ds ps → (∀ p ∈ ps, p.block < W.heap.size) → (∀ p ∈ ps, sp p.block = true) → DataW.TrodAll enc P W' 0 sp true ts vs ds ps
  | [], [], [], _, _, h, _, _ => h
  | t :: ts, v :: vs, d :: ds, _, ht, ⟨p, q, h1, h2, e⟩, hlt, hsp => by
    subst e
    exact ⟨p, q, WideElems.Trod_stays hl (ht t (by simp)).1 (ht t (by simp)).2 h1 (fun x hx => hb.same (hlt x (by simp [hx]))) (fun x hx => hsp x (by simp [hx])),
      lift_trod hl hb sp (fun t h => ht t (by simp [h])) h2 (fun x hx => hlt x (by simp [hx])) (fun x hx => hsp x (by simp [hx])), rfl⟩
  | [], [], _ :: _, _, _, h, _, _ => h.elim
  | [], _ :: _, _, _, _, h, _, _ => h.elim
  | _ :: _, [], _, _, _, h, _, _ => h.elim
  | _ :: _, _ :: _, [], _, _, h, _, _ => h.elim

theorem lift_len {W : World} {b : Nat} {sp : Nat → Bool} {hd : Bool} : ∀ {ts : List TypeId} {vs : List Value} {ds : List (DataW H)} {ps : List MemPlace}, DataW.TrodAll enc P W b sp hd ts vs ds ps → vs.length = ts.length ∧ ds.length = ts.length
  | [], [], [], _, _ => ⟨rfl, rfl⟩
  | _ :: _, _ :: _, _ :: _, _, ⟨_, _, _, h2, _⟩ => by
    have := lift_len h2
    exact ⟨by simp [this.1], by simp [this.2]⟩
  | [], [], _ :: _, _, h => h.elim
  | [], _ :: _, _, _, h => h.elim
  | _ :: _, [], _, _, h => h.elim
  | _ :: _, _ :: _, [], _, h => h.elim

theorem lift_post {f : Func} {s : ChangeSpec} {apart fresh handsOn again : Bool} {W W' : World} {args : Array Value} {v : Value} {ds gs : List (DataW H)} {before pa pv : List MemPlace}
    (hW : DataW.Whole enc P f.params.toList s.vars apart W args.toList ds gs before)
    (hres : ∀ (b : Nat) (sp : Nat → Bool) (hd : Bool), DataW.TrodAll enc P W' b sp hd f.resultTypes.toList (v.resultList f.resultTypes.size) (s.fn H (ds ++ gs)).results [])
    (hargs : ∀ sp : Nat → Bool, (∀ p ∈ before, sp p.block = true) → DataW.TrodAll enc P W' 0 sp true f.params.toList args.toList (s.fn H (ds ++ gs)).args pa)
    (hvars : ∀ sp : Nat → Bool, (∀ p ∈ before, sp p.block = true) → DataW.TrodVars enc P W' sp s.vars (s.fn H (ds ++ gs)).vars pv)
    (hps : before = pa ++ pv) (hb : Below W.heap.size W W')
    (hok : ∀ (j : Nat) (t : TypeId) (r : Value), f.resultTypes[j]? = some t → (v.resultList f.resultTypes.size)[j]? = some r → Value.okWide P W' .any 0 t r) :
    s.post enc P f apart fresh handsOn again W args v W' := by
  have hlt : ∀ p ∈ before, p.block < W.heap.size := fun p hp => hW.lt p hp
  have hold : ∀ p ∈ before, (fun b => decide (b < W.heap.size)) p.block = true := fun p hp => by simpa using hlt p hp
  refine ⟨ds, gs, before, [], pa, pv, hW, hres _ _ _, hargs _ hold, hvars _ hold, World.keptBut_mono (fun p hp => ⟨hp, ?_⟩) (hb.frame (· ∈ before)), fun _ => ?_⟩
  · rw [hps, List.mem_append] at hp
    exact Or.inr hp
  · obtain ⟨_, _, _, _, _, hz, hn⟩ := hW
    refine ⟨hok, _, _, ([] ++ pa) ++ pv, ⟨[] ++ pa, pv, trodAll_append (hargs _ (fun _ _ => rfl)) (hres _ _ _), hvars _ (fun _ _ => rfl), rfl, ?_, ?_⟩, ?_⟩
    · intro b off hp
      have hin : MemPlace.cell b off ∈ before := by rw [hps]; simpa using hp
      rw [hb.frozen (hlt _ hin)]
      exact hz b off hin
    · intro ha
      have := hn ha
      rw [hps] at this
      simpa using this
    · intro p hp _
      rw [hps]
      simpa using hp

/-- a law: it returns true, and what was there is as it was -/
theorem lift_law {f : Func} {s : ChangeSpec} {apart fresh handsOn again : Bool} {tb : TypeId} {W : World} {args : Array Value} {ds gs : List (DataW H)} {before : List MemPlace}
    (hl : laidOutB P = true) (htb : P.underlying tb = some .bool) (hrt : f.resultTypes = #[tb]) (hpt : ∀ t ∈ f.params.toList, P.readableRec t = true ∧ t < P.types.size) (hv : s.vars = [])
    (hfn : s.fn H ds = { results := [.lit (.bool true)], args := ds })
    (hW : DataW.Whole enc P f.params.toList s.vars apart W args.toList ds gs before) {fid : FuncId}
    (h : Calls P fid args W fun e w' => e = .returned (.bool true) ∧ Below W.heap.size W w') :
    Calls P fid args W fun e W' => ∃ v, e = .returned v ∧ s.post enc P f apart fresh handsOn again W args v W' := by
  have hW' := hW
  have hlt : ∀ p ∈ before, p.block < W.heap.size := fun p hp => hW.lt p hp
  obtain ⟨p, q, hA, hV, hps, _, _⟩ := hW
  rw [hv] at hV
  obtain ⟨rfl, rfl⟩ := trodVars_none hV
  refine h.mono fun e W' ⟨he, hb⟩ => ⟨_, he, ?_⟩
  have hfn' : s.fn H (ds ++ []) = { results := [.lit (.bool true)], args := ds } := by rw [List.append_nil]; exact hfn
  refine lift_post (pa := p) (pv := []) hW' ?_ ?_ ?_ hps hb ?_
  · intro b sp hd
    rw [hfn', hrt]
    exact trodAll_mk1 (shut_bool htb _)
  · intro sp hsp
    rw [hfn']
    exact lift_trod hl hb sp hpt hA (fun x hx => hlt x (by rw [hps]; simp [hx])) (fun x hx => hsp x (by rw [hps]; simp [hx]))
  · intro sp hsp
    rw [hfn', hv]
    rfl
  · rw [hrt]
    exact ok_one (f := { f with resultTypes := #[tb] }) rfl rfl (okWide_bool_mk htb _)

theorem cell_int {W : World} {r : Reach} {b : Nat} {t : TypeId} {k : IntKind} {v : Value} (ht : P.underlying t = some (.int k)) (h : Cell.okWide P W r b t v) : ∃ n, v = .int k n ∧ k.has n := by
  unfold Cell.okWide Cell.ok at h
  rw [ht] at h
  cases v <;> simp at h
  obtain ⟨rfl, h2⟩ := h
  exact ⟨_, rfl, h2⟩
end
end Go.Proofs.YthomddbekiknjaaGreat
/- an argument that is a slice of anything whose cells are told once; records and items as arguments -/
namespace Go.Proofs.YthomddbekiknjaaGreat
open Go.ChangeShapes Go.WideShapes Go.ChangeAt Go.RowKit Go.Deep
set_option linter.unusedVariables false
set_option linter.unusedSimpArgs false

section
variable {H : Type} {enc : TypeId × Value → H} {w : World} {base : Nat} {sp : Nat → Bool} {held : Bool}
set_option maxRecDepth 100000 in
theorem open_rows {α : Type} [Inhabited α] (R : RowKind α) (P : α → Prop) (hk : Tryz.prog.cellsOf R.tE = R.k)
    (hcell : ∀ (n : Nat) (cs : List Value) (x : DataW H × List MemPlace), DataW.trod enc Tryz.prog w base sp held n R.tE cs = some x → ∃ a : α, cs = R.enc a ∧ P a)
    {r : Reach} {b0 : Nat} {v : Value} {d : DataW H} {ps : List MemPlace} (hval : Value.okWide Tryz.prog w r b0 R.tS v) (hd : DataW.Trod enc Tryz.prog w base sp held R.tS v d ps) : ∃ xs : List α, R.Is w v xs ∧ capOk v ∧ ∀ x ∈ xs, P x := by
  obtain ⟨fuel, h⟩ := hd
  obtain ⟨pa, ln, cp, rfl⟩ := okWide_slice R.under hval
  rcases open_slice R.under h with ⟨e, _⟩ | ⟨a, len, cap, m, n, D, Pl, e, hb, hl, hm, hmm, _, hx⟩
  · simp [Value.cells] at e
    obtain ⟨rfl, rfl, rfl⟩ := e
    exact ⟨[], .inl ⟨rfl, none, 0, rfl, fun _ => rfl⟩, fun p n c e => by cases e; omega, fun x hx => by cases hx⟩
  · simp [Value.cells] at e
    obtain ⟨rfl, rfl, rfl⟩ := e
    have hlm : ln ≤ m := by rw [hmm]; split <;> omega
    rw [hk] at hx
    have each : ∀ i, i < m → ∃ t : α, P t ∧ ∀ k u, (R.enc t)[k]? = some u → w.cell? ((a.add (i * R.k)).add k) = some u := by
      intro i hi
      obtain ⟨cs', h1, h2⟩ := hx i hi
      obtain ⟨_, hlen, hcl⟩ := World.cells?_some h1
      obtain ⟨t, rfl, hp⟩ := hcell _ _ _ h2
      refine ⟨t, hp, fun k u hu => ?_⟩
      have hk5 : k < R.k := by have := (List.getElem?_eq_some_iff.1 hu).1; rw [R.len] at this; exact this
      rw [hcl k hk5]
      exact hu
    obtain ⟨T, hT⟩ := choose_lt each
    by_cases h0 : ln = 0
    · subst h0
      exact ⟨[], .inl ⟨rfl, some a, cp, rfl, fun h => by cases h⟩, fun p n c e => by cases e; omega, fun x hx => by cases hx⟩
    · have hk0 := R.k0
      obtain ⟨u0, hu0⟩ : ∃ u, (R.enc (T 0))[0]? = some u := ⟨_, List.getElem?_eq_getElem (by rw [R.len]; exact hk0)⟩
      have c00 := (hT 0 (by omega)).2 0 _ hu0
      have hspot : a.spot = none := by
        rw [add_add] at c00
        unfold World.cell? at c00
        split at c00
        · split at c00
          · cases c00
          · rename_i hn
            simp [Addr.add] at hn
            exact hn
        · cases c00
      obtain ⟨b, off, spot⟩ := a
      simp only at hspot
      subst hspot
      have hbl : b < w.heap.size := World.block_lt_of_cell? _ _ (by rw [add_add, Nat.add_zero, Addr.add_lit] at c00; exact c00)
      refine ⟨(List.range ln).map T, .inr ⟨by simp [h0], b, off, cp, by simp, hbl, ?_⟩, fun p n c e => by cases e; omega, fun x hx => ?_⟩
      · intro j hj i u hu
        have hj' : j < ln := by simpa using hj
        have hg : ((List.range ln).map T)[j]! = T j := by simp [hj']
        rw [hg] at hu
        have := (hT j (by omega)).2 i u hu
        rw [add_add, Addr.add_lit, ← Nat.add_assoc] at this
        exact this
      · obtain ⟨j, hj, rfl⟩ := List.mem_map.1 hx
        exact (hT j (by have := List.mem_range.1 hj; omega)).1
end
end Go.Proofs.YthomddbekiknjaaGreat
