/- the document's Come, where it refuses; in general -/
import Derived.Test.YthhceggcdaljdaaGreatG28
import Derived.Test.YthhceggcdaljdaaGreatG25
import Derived.Test.YthhceggcdaljdaaGreatG14
import Derived.Deep.RegionHeldLaw
namespace Go.Proofs.YthhceggcdaljdaaGreat
open Go.RowKit
set_option linter.unusedVariables false
set_option linter.unusedSimpArgs false

set_option maxRecDepth 100000 in
set_option maxHeartbeats 32000000 in
theorem rcome_bad (c : List SV) (v : Value) (kind port : Int) (t : TV) (r : RV) (n : Int) (w : World) (hs : SmallC 100000 c) (h : IsCl w v c) (hq : ¬ ((port = 0 ∨ port = 1) ∧ n ≠ 0 ∧ n ≤ 2147483648 ∧ -2147483648 ≤ n)) : Calls Tryz.prog 11 #[v, .int .i64 kind, .int .i64 port, TV.val t, RV.val r, .int .i64 n] w (ComeR c kind port t r n w) := by
  have hok : comeOk c port t n = false := by
    cases e : comeOk c port t n
    · rfl
    · exact absurd ((comeOk_iff c port t n).1 e).2.2 hq
  have HOk := Lib.hid hok
  clear hok
  have HNo : Hid (∀ w' u, IsCl w' u c → capOk u → Below w.heap.size w w' → ComeR c kind port t r n w (.returned (.tuple #[u, .bool false, .bool false])) w') := fun w' u h1 h2 h3 => come_no HOk.out h1 h2 h3
  generalize ComeR c kind port t r n w = R at HNo ⊢
  clear HOk
  have HC := Lib.hid h
  obtain ⟨xs, hx0, hx1⟩ := h
  have HAr := Lib.hid hx1
  obtain ⟨pv, kv, rfl, ho⟩ := isOpenedD hx0
  have hxn : xs.length = c.length := hx1.1
  have hsz : c.length ≤ 100000 := hs.1
  have HSm := Lib.hid hs
  have hb0 := ((Below.refl w.heap.size w).alloc (Nat.le_refl _) (.cells #[.int .i64 t.d, .int .i64 t.c0, .int .i64 t.c1, .int .i64 t.c2, .int .i64 t.c3] 25)).alloc (by simp) (.cells #[.int .i64 r.k, .int .i64 r.v] 27)
  have hbt := (BT5.new w t).more (.cells #[.int .i64 r.k, .int .i64 r.v] 27)
  have hbr := BR2.new (w.alloc (.cells #[.int .i64 t.d, .int .i64 t.c0, .int .i64 t.c1, .int .i64 t.c2, .int .i64 t.c3] 25)) r
  rw [World.size_alloc] at hbr
  obtain ⟨rk, rv⟩ := r
  obtain ⟨td, t0, t1, t2, t3⟩ := t
  dsimp only at hb0 hbt hbr
  go_enter Tryz.func11, Tryz.ntmps11
  go_upto_region 1 with (fail)
  generalize (w.alloc (.cells #[.int .i64 td, .int .i64 t0, .int .i64 t1, .int .i64 t2, .int .i64 t3] 25)).alloc (.cells #[.int .i64 rk, .int .i64 rv] 27) = w0 at *
  have HB0 := Lib.hid hb0
  have HBt := Lib.hid hbt
  have HBr := Lib.hid hbr
  have HZt : Hid (w.heap.size < w0.heap.size ∧ w.heap.size + 1 < w0.heap.size) := ⟨hbt.l, hbr.l⟩
  have HC0 := Lib.hid (HC.out.below hb0)
  have HAr0 := Lib.hid (HAr.out.below hb0)
  have HO0 : Hid (RSl.Own w0.heap.size (w0.alloc (.cells #[] 40)) (.slice (some ⟨w0.heap.size, 0, none⟩) 0 0) []) := World.ownsRow_made w0 #[] 0 (Nat.le_refl _) (Nat.zero_le _) rfl
  have HBa := Lib.hid ((Below.refl w0.heap.size w0).alloc (Nat.le_refl _) (.cells #[] 40))
  have HZa := Lib.hid HBa.out.size
  have HI2 := Lib.hid ((hx0.below hb0).below HBa.out)
  have HLn : Hid (([] : List SW).length + xs.length ≤ 1000000) := by rw [Hid, List.length_nil, hxn]; omega
  have HOx : Hid (∀ j, j < c.length → ∃ b off, pv = some ⟨b, off, none⟩ ∧ b < w.heap.size ∧ RSl.Row w b off xs) := by rw [Hid, ← hxn]; exact ho
  rw [hxn] at HC HC0 HI2 ⊢
  clear hb0 hbt hbr hx0 hx1 ho hxn HC
  generalize hbtE : w.heap.size = bt at *
  have HW := Lib.hid hbtE
  clear hbtE
  go_upto_region 2 with (at_builtin; refine RowKind.Own.appendAny (R := RSl) (ys := xs) HO0.out HBa.out HZa.out rfl _ _ rfl rfl rfl HI2.out HLn.out ?_; intro v1 w1 hO1 hB1 hz1)
  have HB1 := Lib.hid hB1
  have HI1 : Hid (IsCl w1 v1 c ∧ capOk v1) := ⟨⟨xs, hO1.is, HAr0.out.below hB1⟩, ownCapC hO1⟩
  have HT := Lib.hid (rlist_ok ⟨td, t0, t1, t2, t3⟩ w1)
  obtain ⟨z0, z1, z2, z3, z4, zl⟩ := HBt.out.below hB1
  dsimp only at z0 z1 z2 z3 z4
  clear hO1 hB1 hz1 HO0 HBa HZa HI2 HLn
  generalize hto : TV.ok ⟨td, t0, t1, t2, t3⟩ = tok at *
  go_wp2_with fail
  refine (HT.out).mono ?_
  rintro e w2 ⟨lv, rfl, hb2⟩
  have HB2 := Lib.hid (bcall HB1.out hb2 HB1.out.size)
  have HI2 : Hid (IsCl w2 v1 c ∧ capOk v1) := ⟨HI1.out.1.below hb2, HI1.out.2⟩
  clear hb2 HT z0 z1 z2 z3 z4 zl HI1
  cases tok
  · have HX := Lib.hid (HNo.out w2 v1 HI2.out.1 HI2.out.2 (HB0.out.trans (HB2.out.mono (Nat.le_of_lt HZt.out.1))))
    clear HNo
    go_wp2
    first | exact HX.out | (go_returns; exact HX.out)
  · have HRi := Lib.hid (rrightC_any c (.slice pv c.length kv) w2 (HSm.out.mono (by decide)) (HC0.out.below HB2.out))
    generalize hrc : rightSl c = rc at *
    go_wp2_with fail
    refine (HRi.out).mono ?_
    rintro e w3 ⟨rfl, hb3⟩
    have HB3 := Lib.hid (bcall HB2.out hb3 HB2.out.size)
    have HI3 : Hid (IsCl w3 v1 c ∧ capOk v1) := ⟨HI2.out.1.below hb3, HI2.out.2⟩
    clear hb3 HRi HB2 HI2
    cases rc
    · have HX := Lib.hid (HNo.out w3 v1 HI3.out.1 HI3.out.2 (HB0.out.trans (HB3.out.mono (Nat.le_of_lt HZt.out.1))))
      clear HNo
      go_wp2
      first | exact HX.out | (go_returns; exact HX.out)
    · have HX := Lib.hid (HNo.out w3 v1 HI3.out.1 HI3.out.2 (HB0.out.trans (HB3.out.mono (Nat.le_of_lt HZt.out.1))))
      clear HNo HI3 HBt HBr HC0 HAr0 HAr HSm
      by_cases p0 : port = 0 ∨ port = 1
      · have e3 : ∀ x : Bool, ((port != 0) = true ∧ (port != 1) = x) ∨ (port != 0) = false → True := fun _ _ => trivial
        clear e3
        by_cases n0 : n = 0
        · have d2 : (n == 0) = true := by simp; exact n0
          clear n0 hq
          rcases p0 with rfl | rfl
          · go_wp2
            first | exact HX.out | (go_returns; exact HX.out)
          · go_wp2
            first | exact HX.out | (go_returns; exact HX.out)
        · have d2 : (n == 0) = false := by simp; exact n0
          by_cases n1 : 2147483648 < n
          · have d3 : decide (2147483648 < n) = true := decide_eq_true n1
            clear n0 n1 hq
            rcases p0 with rfl | rfl
            · go_wp2
              first | exact HX.out | (go_returns; exact HX.out)
            · go_wp2
              first | exact HX.out | (go_returns; exact HX.out)
          · have d3 : decide (2147483648 < n) = false := decide_eq_false n1
            have n2 : n < -2147483648 := by
              by_cases n2 : n < -2147483648
              · exact n2
              · exact absurd ⟨p0, n0, by omega, by omega⟩ hq
            have d4 : decide (n < -2147483648) = true := decide_eq_true n2
            clear n0 n1 n2 hq
            rcases p0 with rfl | rfl
            · go_wp2
              first | exact HX.out | (go_returns; exact HX.out)
            · go_wp2
              first | exact HX.out | (go_returns; exact HX.out)
      · have p1 : (port != 0) = true := by simp; omega
        have p2 : (port != 1) = true := by simp; omega
        clear p0 hq
        go_wp2
        first | exact HX.out | (go_returns; exact HX.out)
theorem rcome_any (c : List SV) (v : Value) (kind port : Int) (t : TV) (r : RV) (n : Int) (w : World) (hs : SmallC 100000 c) (h : IsCl w v c) : Calls Tryz.prog 11 #[v, .int .i64 kind, .int .i64 port, TV.val t, RV.val r, .int .i64 n] w (ComeR c kind port t r n w) := by
  by_cases hq : (port = 0 ∨ port = 1) ∧ n ≠ 0 ∧ n ≤ 2147483648 ∧ -2147483648 ≤ n
  · obtain ⟨hp, q2, q3, q4⟩ := hq
    rcases hp with rfl | rfl
    · exact rcome_good0 c v kind t r n w hs h q2 (by omega) (by omega)
    · exact rcome_good1 c v kind t r n w hs h q2 (by omega) (by omega)
  · exact rcome_bad c v kind port t r n w hs h hq
end Go.Proofs.YthhceggcdaljdaaGreat
/- the document's: two lists of items, of records, the same? -/
namespace Go.Proofs.YthhceggcdaljdaaGreat
open Go.RowKit
set_option linter.unusedVariables false
set_option linter.unusedSimpArgs false
attribute [local go_sem ↓] eqRec neRec eqItem neItem

set_option maxRecDepth 100000 in
set_option maxHeartbeats 4000000 in
theorem rsame_row (xs ys : List IV) (b off cap b2 off2 cap2 : Nat) (w : World) (hl : xs.length ≤ 900000) (hlen : xs.length = ys.length) (hb : b < w.heap.size) (hr : RI.Row w b off xs) (hb2 : b2 < w.heap.size) (hr2 : RI.Row w b2 off2 ys) :
    Calls Tryz.prog 60 #[.slice (some ⟨b, off, none⟩) xs.length cap, .slice (some ⟨b2, off2, none⟩) ys.length cap2] w (Ret (.bool (decide (xs = ys))) w) := by
  have hrow : Hid (∀ (W : World), Below w.heap.size w W → ∀ j, j < xs.length → _) := fun W hW j hj => atI (hr.below hW hb) j hj
  have hrow2 : Hid (∀ (W : World), Below w.heap.size w W → ∀ j, j < ys.length → _) := fun W hW j hj => atI (hr2.below hW hb2) j hj
  clear hr hr2
  rw [← hlen]
  generalize hn : xs.length = n at hl hlen
  have HN := Lib.hid hn
  have HM := Lib.hid hlen
  clear hn hlen
  generalize hres : decide (xs = ys) = res
  have HR := Lib.hid hres
  clear hres
  go_enter Tryz.func60, Tryz.ntmps60
  go_wp2
  go_loopg [5] n (fun gg i wr => ∃ k : Nat, k ≤ n ∧ n - k ≤ gg ∧ i = .int .i64 k ∧ Hid (Below w.heap.size w wr) ∧ Hid (xs.take k = ys.take k))
  case atStart => exact ⟨0, Nat.zero_le _, by omega, rfl, (Below.refl _ _), rfl⟩
  case round =>
    obtain ⟨k, hkn, hg, rfl, HB, HC⟩ := hrel
    by_cases hlt : k < n
    · have hlz : (k : Int) < (n : Int) := by omega
      have hc := fun m => hrow.out (wr.drewN m) (below_drewN HB.out m) k (by rw [HN.out]; exact hlt)
      have hc2 := fun m => hrow2.out (wr.drewN m) (below_drewN HB.out m) k (by rw [← HM.out]; exact hlt)
      have hgo := fun (h : xs[k]! = ys[k]!) => show xs.take (k + 1) = ys.take (k + 1) by rw [take_getA xs k (by rw [HN.out]; exact hlt), take_getA ys k (by rw [← HM.out]; exact hlt), HC.out, h]
      have hno := fun (h : ¬ xs[k]! = ys[k]!) => show res = false from by rw [← HR.out]; exact decide_eq_false (fun e => h (by rw [e]))
      generalize xs[k]! = x at hc hgo hno
      generalize ys[k]! = y at hc2 hgo hno
      have e0 := fun m => (hc m).1; have e1 := fun m => (hc m).2.1; have e2 := fun m => (hc m).2.2
      have f0 := fun m => (hc2 m).1; have f1 := fun m => (hc2 m).2.1; have f2 := fun m => (hc2 m).2.2
      clear hc hc2 hrow hrow2
      by_cases hxy : x = y
      · have hq : eqI ⟨⟨x.t.k, x.t.v⟩, x.n⟩ ⟨⟨y.t.k, y.t.v⟩, y.n⟩ = true := decide_eq_true (by rw [hxy])
        have HG := Lib.hid (hgo hxy)
        clear hgo hno hxy
        go_wp2_with fail
        go_quiet (fail)
        go_wp2
        go_roundg (n - (k + 1))
        case measure => omega
        case rel => exact ⟨k + 1, by omega, by omega, by go_num, below_drewN HB.out _, HG.out⟩
      · have hq : eqI ⟨⟨x.t.k, x.t.v⟩, x.n⟩ ⟨⟨y.t.k, y.t.v⟩, y.n⟩ = false := decide_eq_false (fun e => hxy (by obtain ⟨⟨x0, x1⟩, x2⟩ := x; obtain ⟨⟨y0, y1⟩, y2⟩ := y; exact e))
        have HG := Lib.hid (hno hxy)
        clear hgo hno hxy
        go_wp2_with fail
        go_quiet (fail)
        go_wp2
        go_returns
        exact ⟨ret_bool HG.out.symm, below_drewN HB.out _⟩
    · have hlz : ¬ (k : Int) < (n : Int) := by omega
      have : k = n := by omega
      subst this
      have HX : Hid (res = true) := by
        have h := HC.out
        rw [List.take_of_length_le (by rw [HN.out]; exact Nat.le_refl _), List.take_of_length_le (by rw [← HM.out]; exact Nat.le_refl _)] at h
        show res = true
        rw [← HR.out]
        exact decide_eq_true h
      clear HC hrow hrow2
      go_wp2
      go_returns
      exact ⟨ret_bool HX.out.symm, HB.out⟩
set_option maxHeartbeats 2000000 in
theorem rsame_no (xs ys : List IV) (p q : Option Addr) (cap cap2 : Nat) (w : World) (hlen : xs.length ≠ ys.length) (h1 : xs.length ≤ 900000) (h2 : ys.length ≤ 900000) :
    Calls Tryz.prog 60 #[.slice p xs.length cap, .slice q ys.length cap2] w (Ret (.bool (decide (xs = ys))) w) := by
  rw [decide_eq_false (fun e => hlen (by rw [e]))]
  generalize xs.length = n at *
  generalize ys.length = m at *
  have hne : ¬ (n : Int) = (m : Int) := by omega
  have hneb : ((n : Int) != (m : Int)) = true := by simpa using hne
  go_enter Tryz.func60, Tryz.ntmps60
  go_wp2
  go_returns
  exact ⟨rfl, Below.refl _ _⟩
set_option maxHeartbeats 2000000 in
theorem rsame_nil (p q : Option Addr) (cap cap2 : Nat) (w : World) :
    Calls Tryz.prog 60 #[.slice p 0 cap, .slice q 0 cap2] w (Ret (.bool (decide (([] : List IV) = []))) w) := by
  rw [decide_eq_true rfl]
  go_enter Tryz.func60, Tryz.ntmps60
  go_wp2
  refine wp_loop_rounds 1 ?_
  rw [rounds_succ]
  go_wp2
  go_returns
  exact ⟨rfl, Below.refl _ _⟩
theorem rsame_any (xs ys : List IV) (va vb : Value) (w : World) (h1 : xs.length ≤ 900000) (h2 : ys.length ≤ 900000) (ha : RI.Is w va xs) (hb : RI.Is w vb ys) : Calls Tryz.prog 60 #[va, vb] w (Ret (.bool (decide (xs = ys))) w) := by
  by_cases hlen : xs.length = ys.length
  · rcases ha with ⟨rfl, p, cap, rfl, _⟩ | ⟨hne, b, off, cap, rfl, hl, hr⟩
    · obtain rfl : ys = [] := List.length_eq_zero_iff.1 hlen.symm
      obtain ⟨q, d, rfl⟩ := hb.slice
      exact rsame_nil p q cap d w
    · rcases hb with ⟨rfl, q, d, rfl, _⟩ | ⟨_, b2, off2, cap2, rfl, hl2, hr2⟩
      · exact absurd (List.length_eq_zero_iff.1 hlen) hne
      · exact rsame_row xs ys b off cap b2 off2 cap2 w h1 hlen hl hr hl2 hr2
  · obtain ⟨p, c, rfl⟩ := ha.slice
    obtain ⟨q, d, rfl⟩ := hb.slice
    exact rsame_no xs ys p q c d w hlen h1 h2

end Go.Proofs.YthhceggcdaljdaaGreat
/- the document's: two cells that are the same are told to be -/
namespace Go.Proofs.YthhceggcdaljdaaGreat
open Go.RowKit
set_option linter.unusedVariables false
set_option linter.unusedSimpArgs false

attribute [local go_sem ↓] eqTime neTime
theorem boxed_second (w : World) (o : Obj) (c : Array Value) (ty : TypeId) : Boxed ((w.alloc o).alloc (.cells c ty)).drew (w.heap.size + 1) c ty := by
  have h := heap_alloc_new (w.alloc o) (.cells c ty)
  rw [World.size_alloc] at h
  exact h
theorem eqT_self (t : TV) : eqT t t = true := by rw [eqT_eq]; exact decide_eq_true rfl
set_option maxRecDepth 100000 in
set_option maxHeartbeats 16000000 in
theorem rsameC_any (c : List SV) (va vb : Value) (w : World) (hs : SmallC 900000 c) (ha : IsCl w va c) (hb : IsCl w vb c) : Calls Tryz.prog 14 #[va, vb] w (Ret (.bool true) w) := by
  obtain ⟨xs, hx0, hx1⟩ := ha
  obtain ⟨ys, hy0, hy1⟩ := hb
  have HAx := Lib.hid hx1
  have HAy := Lib.hid hy1
  obtain ⟨pa, ka, rfl, hox⟩ := isOpenedD hx0
  obtain ⟨pb, kb, rfl, hoy⟩ := isOpenedD hy0
  have hxn : xs.length = c.length := hx1.1
  have hyn : ys.length = c.length := hy1.1
  rw [hxn] at hox
  rw [hyn] at hoy
  rw [hxn, hyn]
  have HOx := Lib.hid hox
  have HOy := Lib.hid hoy
  have hsz : c.length ≤ 900000 := hs.1
  have HSm := Lib.hid hs
  have hnn : ((c.length : Int) != (c.length : Int)) = false := by simp
  clear hx0 hx1 hy0 hy1 hox hoy hxn hyn hs
  go_enter Tryz.func14, Tryz.ntmps14
  go_wp2
  go_loopg [5] c.length (fun gg i wr => ∃ k : Nat, k ≤ c.length ∧ c.length - k ≤ gg ∧ i = .int .i64 (k : Int) ∧ Hid (Below w.heap.size w wr))
  case atStart => exact ⟨0, Nat.zero_le _, by omega, rfl, Below.refl _ _⟩
  case round =>
    obtain ⟨k, hkn, hg, rfl, HB⟩ := hrel
    by_cases hlt : k < c.length
    · have hlz : (k : Int) < (c.length : Int) := by omega
      obtain ⟨b, off, rfl, hb, hrow⟩ := HOx.out k hlt
      obtain ⟨g, og, rfl, hgb, hgrow⟩ := HOy.out k hlt
      have hxl : xs.length = c.length := HAx.out.1
      have hyl : ys.length = c.length := HAy.out.1
      have hx := (HAx.out.2 k hlt).below HB.out
      have hy := (HAy.out.2 k hlt).below HB.out
      have hq := HSm.out.2 _ (getElem!_memS hlt)
      have HSa := Lib.hid (fun W (hW : Below wr.heap.size wr W) => rsame_any (c[k]!).a (c[k]!).a _ _ W hq.1 hq.1 (hx.l0.below hW) (hy.l0.below hW))
      have HSb := Lib.hid (fun W (hW : Below wr.heap.size wr W) => rsame_any (c[k]!).b (c[k]!).b _ _ W hq.2.1 hq.2.1 (hx.l1.below hW) (hy.l1.below hW))
      have HSs := Lib.hid (fun W (hW : Below wr.heap.size wr W) => rsame_any (c[k]!).s (c[k]!).s _ _ W hq.2.2 hq.2.2 (hx.l2.below hW) (hy.l2.below hW))
      rw [decide_eq_true rfl] at HSa HSb HSs
      have HRx := Lib.hid (fun W (hW : Below w.heap.size w W) => atSl (hrow.below hW hb) k (by rw [hxl]; exact hlt))
      have HRy := Lib.hid (fun W (hW : Below w.heap.size w W) => atSl (hgrow.below hW hgb) k (by rw [hyl]; exact hlt))
      have h1 : xs[k]!.t = ys[k]!.t := hx.t.trans hy.t.symm
      have h2 : xs[k]!.d = ys[k]!.d := hx.d.trans hy.d.symm
      have h3 : xs[k]!.f = ys[k]!.f := hx.f.trans hy.f.symm
      have h4 : xs[k]!.n0 = ys[k]!.n0 := hx.n0.trans hy.n0.symm
      have h5 : xs[k]!.n1 = ys[k]!.n1 := hx.n1.trans hy.n1.symm
      have h6 : xs[k]!.n2 = ys[k]!.n2 := hx.n2.trans hy.n2.symm
      generalize xs[k]! = x at *
      generalize ys[k]! = y at *
      obtain ⟨⟨x0, x1, x2, x3, x4⟩, p0, n0, c0, p1, n1, c1, p2, n2, c2, xd, xf⟩ := x
      obtain ⟨yt, q0, m0, d0, q1, m1, d1, q2, m2, d2, yd, yf⟩ := y
      dsimp only at h1 h2 h3 h4 h5 h6
      subst h1 h2 h3 h4 h5 h6
      dsimp only at HSa HSb HSs HRx HRy
      clear hx hy hq hrow hgrow hxl hyl
      have HK : Hid (∀ W, Below wr.heap.size wr W → W.cell? ⟨b, off + k * 10, none⟩ = some (.int .i64 x0) ∧ W.cell? ⟨b, off + k * 10 + 1, none⟩ = some (.int .i64 x1) ∧ W.cell? ⟨b, off + k * 10 + 2, none⟩ = some (.int .i64 x2) ∧ W.cell? ⟨b, off + k * 10 + 3, none⟩ = some (.int .i64 x3) ∧ W.cell? ⟨b, off + k * 10 + 4, none⟩ = some (.int .i64 x4) ∧ W.cell? ⟨b, off + k * 10 + 5, none⟩ = some (.slice p0 n0 c0) ∧ W.cell? ⟨b, off + k * 10 + 6, none⟩ = some (.slice p1 n1 c1) ∧ W.cell? ⟨b, off + k * 10 + 7, none⟩ = some (.slice p2 n2 c2) ∧ W.cell? ⟨b, off + k * 10 + 8, none⟩ = some (.bool xd) ∧ W.cell? ⟨b, off + k * 10 + 9, none⟩ = some (.bool xf) ∧ W.cell? ⟨g, og + k * 10, none⟩ = some (.int .i64 x0) ∧ W.cell? ⟨g, og + k * 10 + 1, none⟩ = some (.int .i64 x1) ∧ W.cell? ⟨g, og + k * 10 + 2, none⟩ = some (.int .i64 x2) ∧ W.cell? ⟨g, og + k * 10 + 3, none⟩ = some (.int .i64 x3) ∧ W.cell? ⟨g, og + k * 10 + 4, none⟩ = some (.int .i64 x4) ∧ W.cell? ⟨g, og + k * 10 + 5, none⟩ = some (.slice q0 n0 d0) ∧ W.cell? ⟨g, og + k * 10 + 6, none⟩ = some (.slice q1 n1 d1) ∧ W.cell? ⟨g, og + k * 10 + 7, none⟩ = some (.slice q2 n2 d2) ∧ W.cell? ⟨g, og + k * 10 + 8, none⟩ = some (.bool xd) ∧ W.cell? ⟨g, og + k * 10 + 9, none⟩ = some (.bool xf)) := fun W hW => by
        have hWw := HB.out.trans (hW.mono HB.out.size)
        obtain ⟨e0, e1, e2, e3, e4, e5, e6, e7, e8, e9⟩ := HRx.out W hWw
        obtain ⟨f0, f1, f2, f3, f4, f5, f6, f7, f8, f9⟩ := HRy.out W hWw
        exact ⟨e0, e1, e2, e3, e4, e5, e6, e7, e8, e9, f0, f1, f2, f3, f4, f5, f6, f7, f8, f9⟩
      obtain ⟨e0, e1, e2, e3, e4, e5, e6, e7, e8, e9, f0, f1, f2, f3, f4, f5, f6, f7, f8, f9⟩ := HK.out wr (Below.refl _ _)
      have HLb : Hid (b < wr.heap.size ∧ g < wr.heap.size) := ⟨Nat.lt_of_lt_of_le hb HB.out.size, Nat.lt_of_lt_of_le hgb HB.out.size⟩
      clear HRx HRy
      have hbn : b ≠ wr.heap.size := by have := HLb.out.1; omega
      have hbn2 : b ≠ wr.heap.size + 1 := by have := HLb.out.1; omega
      have hgn : g ≠ wr.heap.size := by have := HLb.out.2; omega
      have hgn2 : g ≠ wr.heap.size + 1 := by have := HLb.out.2; omega
      go_upto_region 6 with (fail)
      go_region_held_law (fun W => W.cell? ⟨b, off + k * 10, none⟩ = some (.int .i64 x0) ∧ W.cell? ⟨b, off + k * 10 + 1, none⟩ = some (.int .i64 x1) ∧ W.cell? ⟨b, off + k * 10 + 2, none⟩ = some (.int .i64 x2) ∧ W.cell? ⟨b, off + k * 10 + 3, none⟩ = some (.int .i64 x3) ∧ W.cell? ⟨b, off + k * 10 + 4, none⟩ = some (.int .i64 x4) ∧ W.cell? ⟨b, off + k * 10 + 5, none⟩ = some (.slice p0 n0 c0) ∧ W.cell? ⟨b, off + k * 10 + 6, none⟩ = some (.slice p1 n1 c1) ∧ W.cell? ⟨b, off + k * 10 + 7, none⟩ = some (.slice p2 n2 c2) ∧ W.cell? ⟨b, off + k * 10 + 8, none⟩ = some (.bool xd) ∧ W.cell? ⟨b, off + k * 10 + 9, none⟩ = some (.bool xf) ∧ W.cell? ⟨g, og + k * 10, none⟩ = some (.int .i64 x0) ∧ W.cell? ⟨g, og + k * 10 + 1, none⟩ = some (.int .i64 x1) ∧ W.cell? ⟨g, og + k * 10 + 2, none⟩ = some (.int .i64 x2) ∧ W.cell? ⟨g, og + k * 10 + 3, none⟩ = some (.int .i64 x3) ∧ W.cell? ⟨g, og + k * 10 + 4, none⟩ = some (.int .i64 x4) ∧ W.cell? ⟨g, og + k * 10 + 5, none⟩ = some (.slice q0 n0 d0) ∧ W.cell? ⟨g, og + k * 10 + 6, none⟩ = some (.slice q1 n1 d1) ∧ W.cell? ⟨g, og + k * 10 + 7, none⟩ = some (.slice q2 n2 d2) ∧ W.cell? ⟨g, og + k * 10 + 8, none⟩ = some (.bool xd) ∧ W.cell? ⟨g, og + k * 10 + 9, none⟩ = some (.bool xf)) (first | (with_reducible exact HK.out _ (by assumption)) | go_keep) (fail)
      · refine gen_q (fun W' => Below wr.heap.size wr W' ∧ Boxed W' wr.heap.size #[.int .i64 x0, .int .i64 x1, .int .i64 x2, .int .i64 x3, .int .i64 x4, .slice p0 n0 c0, .slice p1 n1 c1, .slice p2 n2 c2, .bool xd, .bool xf] 40 ∧ Boxed W' (wr.heap.size + 1) #[.int .i64 x0, .int .i64 x1, .int .i64 x2, .int .i64 x3, .int .i64 x4, .slice q0 n0 d0, .slice q1 n1 d1, .slice q2 n2 d2, .bool xd, .bool xf] 40) ⟨by go_grown, by first | exact boxed_second _ _ _ _ | exact heap_alloc_new _ _ | exact (Boxed.new _ _ _).alloc _, by first | exact boxed_second _ _ _ _ | exact heap_alloc_new _ _ | exact (Boxed.new _ _ _).alloc _⟩ ?_
        rintro w3 ⟨hb3, hx3, hy3⟩
        have HB3 := Lib.hid hb3
        have HX3 := Lib.hid hx3
        have HY3 := Lib.hid hy3
        have hs3 := hb3.size
        generalize wr.heap.size + 1 = bz at *
        have HL3 : Hid (wr.heap.size ≤ w3.heap.size) := hs3
        have HBz := Lib.hid HB.out.size
        generalize hbw : wr.heap.size = bw at *
        have HW := Lib.hid hbw
        clear hb3 hs3 e0 e1 e2 e3 e4 e5 e6 e7 e8 e9 f0 f1 f2 f3 f4 f5 f6 f7 f8 f9 HK hbn hbn2 hgn hgn2 hbw
        have hex := eqT_self ⟨x0, x1, x2, x3, x4⟩
        have hdd : (xd != xd) = false := by cases xd <;> rfl
        have hff : (xf != xf) = false := by cases xf <;> rfl
        have b0 := HX3.out.cell 0
        have b1 := HX3.out.cell 1
        have b2 := HX3.out.cell 2
        have b3 := HX3.out.cell 3
        have b4 := HX3.out.cell 4
        have b5 := HX3.out.cell 5
        have b6 := HX3.out.cell 6
        have b7 := HX3.out.cell 7
        have b8 := HX3.out.cell 8
        have b9 := HX3.out.cell 9
        dsimp at b0 b1 b2 b3 b4 b5 b6 b7 b8 b9
        have z0 := HY3.out.cell 0
        have z1 := HY3.out.cell 1
        have z2 := HY3.out.cell 2
        have z3 := HY3.out.cell 3
        have z4 := HY3.out.cell 4
        have z5 := HY3.out.cell 5
        have z6 := HY3.out.cell 6
        have z7 := HY3.out.cell 7
        have z8 := HY3.out.cell 8
        have z9 := HY3.out.cell 9
        dsimp at z0 z1 z2 z3 z4 z5 z6 z7 z8 z9
        go_wp2_with fail
        refine (HSa.out _ HB3.out).mono ?_
        rintro e w4 ⟨rfl, hb4⟩
        have HB4 : Hid (Below bw wr w4) := HB3.out.trans (hb4.mono HL3.out)
        have HL4 := Lib.hid (Nat.le_trans HL3.out hb4.size)
        have HX4 := Lib.hid (HX3.out.below hb4 HX3.out.lt)
        have HY4 := Lib.hid (HY3.out.below hb4 HY3.out.lt)
        clear hb4 HX3 HY3 b0 b1 b2 b3 b4 b5 b6 b7 b8 b9 z0 z1 z2 z3 z4 z5 z6 z7 z8 z9
        have b0 := HX4.out.cell 0
        have b1 := HX4.out.cell 1
        have b2 := HX4.out.cell 2
        have b3 := HX4.out.cell 3
        have b4 := HX4.out.cell 4
        have b5 := HX4.out.cell 5
        have b6 := HX4.out.cell 6
        have b7 := HX4.out.cell 7
        have b8 := HX4.out.cell 8
        have b9 := HX4.out.cell 9
        dsimp at b0 b1 b2 b3 b4 b5 b6 b7 b8 b9
        have z0 := HY4.out.cell 0
        have z1 := HY4.out.cell 1
        have z2 := HY4.out.cell 2
        have z3 := HY4.out.cell 3
        have z4 := HY4.out.cell 4
        have z5 := HY4.out.cell 5
        have z6 := HY4.out.cell 6
        have z7 := HY4.out.cell 7
        have z8 := HY4.out.cell 8
        have z9 := HY4.out.cell 9
        dsimp at z0 z1 z2 z3 z4 z5 z6 z7 z8 z9
        go_wp2_with fail
        refine (HSb.out _ HB4.out).mono ?_
        rintro e w5 ⟨rfl, hb5⟩
        have HB5 : Hid (Below bw wr w5) := HB4.out.trans (hb5.mono HL4.out)
        have HL5 := Lib.hid (Nat.le_trans HL4.out hb5.size)
        have HX5 := Lib.hid (HX4.out.below hb5 HX4.out.lt)
        have HY5 := Lib.hid (HY4.out.below hb5 HY4.out.lt)
        clear hb5 HX4 HY4 b0 b1 b2 b3 b4 b5 b6 b7 b8 b9 z0 z1 z2 z3 z4 z5 z6 z7 z8 z9
        have b0 := HX5.out.cell 0
        have b1 := HX5.out.cell 1
        have b2 := HX5.out.cell 2
        have b3 := HX5.out.cell 3
        have b4 := HX5.out.cell 4
        have b5 := HX5.out.cell 5
        have b6 := HX5.out.cell 6
        have b7 := HX5.out.cell 7
        have b8 := HX5.out.cell 8
        have b9 := HX5.out.cell 9
        dsimp at b0 b1 b2 b3 b4 b5 b6 b7 b8 b9
        have z0 := HY5.out.cell 0
        have z1 := HY5.out.cell 1
        have z2 := HY5.out.cell 2
        have z3 := HY5.out.cell 3
        have z4 := HY5.out.cell 4
        have z5 := HY5.out.cell 5
        have z6 := HY5.out.cell 6
        have z7 := HY5.out.cell 7
        have z8 := HY5.out.cell 8
        have z9 := HY5.out.cell 9
        dsimp at z0 z1 z2 z3 z4 z5 z6 z7 z8 z9
        go_wp2_with fail
        refine (HSs.out _ HB5.out).mono ?_
        rintro e w6 ⟨rfl, hb6⟩
        have HB6 : Hid (Below bw wr w6) := HB5.out.trans (hb6.mono HL5.out)
        have HL6 := Lib.hid (Nat.le_trans HL5.out hb6.size)
        have HX6 := Lib.hid (HX5.out.below hb6 HX5.out.lt)
        have HY6 := Lib.hid (HY5.out.below hb6 HY5.out.lt)
        clear hb6 HX5 HY5 b0 b1 b2 b3 b4 b5 b6 b7 b8 b9 z0 z1 z2 z3 z4 z5 z6 z7 z8 z9
        have HBq : Hid (Below w.heap.size w w6) := HB.out.trans (HB6.out.mono HBz.out)
        go_wp2
        go_roundg (c.length - (k + 1))
        case measure => omega
        case rel => exact ⟨k + 1, by omega, by omega, by go_num, HBq.out⟩
      · refine gen_q (fun W' => Below wr.heap.size wr W' ∧ Boxed W' (wr.heap.size + 1) #[.int .i64 x0, .int .i64 x1, .int .i64 x2, .int .i64 x3, .int .i64 x4, .slice p0 n0 c0, .slice p1 n1 c1, .slice p2 n2 c2, .bool xd, .bool xf] 40 ∧ Boxed W' wr.heap.size #[.int .i64 x0, .int .i64 x1, .int .i64 x2, .int .i64 x3, .int .i64 x4, .slice q0 n0 d0, .slice q1 n1 d1, .slice q2 n2 d2, .bool xd, .bool xf] 40) ⟨by go_grown, by first | exact boxed_second _ _ _ _ | exact heap_alloc_new _ _ | exact (Boxed.new _ _ _).alloc _, by first | exact boxed_second _ _ _ _ | exact heap_alloc_new _ _ | exact (Boxed.new _ _ _).alloc _⟩ ?_
        rintro w3 ⟨hb3, hx3, hy3⟩
        have HB3 := Lib.hid hb3
        have HX3 := Lib.hid hx3
        have HY3 := Lib.hid hy3
        have hs3 := hb3.size
        generalize wr.heap.size + 1 = bz at *
        have HL3 : Hid (wr.heap.size ≤ w3.heap.size) := hs3
        have HBz := Lib.hid HB.out.size
        generalize hbw : wr.heap.size = bw at *
        have HW := Lib.hid hbw
        clear hb3 hs3 e0 e1 e2 e3 e4 e5 e6 e7 e8 e9 f0 f1 f2 f3 f4 f5 f6 f7 f8 f9 HK hbn hbn2 hgn hgn2 hbw
        have hex := eqT_self ⟨x0, x1, x2, x3, x4⟩
        have hdd : (xd != xd) = false := by cases xd <;> rfl
        have hff : (xf != xf) = false := by cases xf <;> rfl
        have b0 := HX3.out.cell 0
        have b1 := HX3.out.cell 1
        have b2 := HX3.out.cell 2
        have b3 := HX3.out.cell 3
        have b4 := HX3.out.cell 4
        have b5 := HX3.out.cell 5
        have b6 := HX3.out.cell 6
        have b7 := HX3.out.cell 7
        have b8 := HX3.out.cell 8
        have b9 := HX3.out.cell 9
        dsimp at b0 b1 b2 b3 b4 b5 b6 b7 b8 b9
        have z0 := HY3.out.cell 0
        have z1 := HY3.out.cell 1
        have z2 := HY3.out.cell 2
        have z3 := HY3.out.cell 3
        have z4 := HY3.out.cell 4
        have z5 := HY3.out.cell 5
        have z6 := HY3.out.cell 6
        have z7 := HY3.out.cell 7
        have z8 := HY3.out.cell 8
        have z9 := HY3.out.cell 9
        dsimp at z0 z1 z2 z3 z4 z5 z6 z7 z8 z9
        go_wp2_with fail
        refine (HSa.out _ HB3.out).mono ?_
        rintro e w4 ⟨rfl, hb4⟩
        have HB4 : Hid (Below bw wr w4) := HB3.out.trans (hb4.mono HL3.out)
        have HL4 := Lib.hid (Nat.le_trans HL3.out hb4.size)
        have HX4 := Lib.hid (HX3.out.below hb4 HX3.out.lt)
        have HY4 := Lib.hid (HY3.out.below hb4 HY3.out.lt)
        clear hb4 HX3 HY3 b0 b1 b2 b3 b4 b5 b6 b7 b8 b9 z0 z1 z2 z3 z4 z5 z6 z7 z8 z9
        have b0 := HX4.out.cell 0
        have b1 := HX4.out.cell 1
        have b2 := HX4.out.cell 2
        have b3 := HX4.out.cell 3
        have b4 := HX4.out.cell 4
        have b5 := HX4.out.cell 5
        have b6 := HX4.out.cell 6
        have b7 := HX4.out.cell 7
        have b8 := HX4.out.cell 8
        have b9 := HX4.out.cell 9
        dsimp at b0 b1 b2 b3 b4 b5 b6 b7 b8 b9
        have z0 := HY4.out.cell 0
        have z1 := HY4.out.cell 1
        have z2 := HY4.out.cell 2
        have z3 := HY4.out.cell 3
        have z4 := HY4.out.cell 4
        have z5 := HY4.out.cell 5
        have z6 := HY4.out.cell 6
        have z7 := HY4.out.cell 7
        have z8 := HY4.out.cell 8
        have z9 := HY4.out.cell 9
        dsimp at z0 z1 z2 z3 z4 z5 z6 z7 z8 z9
        go_wp2_with fail
        refine (HSb.out _ HB4.out).mono ?_
        rintro e w5 ⟨rfl, hb5⟩
        have HB5 : Hid (Below bw wr w5) := HB4.out.trans (hb5.mono HL4.out)
        have HL5 := Lib.hid (Nat.le_trans HL4.out hb5.size)
        have HX5 := Lib.hid (HX4.out.below hb5 HX4.out.lt)
        have HY5 := Lib.hid (HY4.out.below hb5 HY4.out.lt)
        clear hb5 HX4 HY4 b0 b1 b2 b3 b4 b5 b6 b7 b8 b9 z0 z1 z2 z3 z4 z5 z6 z7 z8 z9
        have b0 := HX5.out.cell 0
        have b1 := HX5.out.cell 1
        have b2 := HX5.out.cell 2
        have b3 := HX5.out.cell 3
        have b4 := HX5.out.cell 4
        have b5 := HX5.out.cell 5
        have b6 := HX5.out.cell 6
        have b7 := HX5.out.cell 7
        have b8 := HX5.out.cell 8
        have b9 := HX5.out.cell 9
        dsimp at b0 b1 b2 b3 b4 b5 b6 b7 b8 b9
        have z0 := HY5.out.cell 0
        have z1 := HY5.out.cell 1
        have z2 := HY5.out.cell 2
        have z3 := HY5.out.cell 3
        have z4 := HY5.out.cell 4
        have z5 := HY5.out.cell 5
        have z6 := HY5.out.cell 6
        have z7 := HY5.out.cell 7
        have z8 := HY5.out.cell 8
        have z9 := HY5.out.cell 9
        dsimp at z0 z1 z2 z3 z4 z5 z6 z7 z8 z9
        go_wp2_with fail
        refine (HSs.out _ HB5.out).mono ?_
        rintro e w6 ⟨rfl, hb6⟩
        have HB6 : Hid (Below bw wr w6) := HB5.out.trans (hb6.mono HL5.out)
        have HL6 := Lib.hid (Nat.le_trans HL5.out hb6.size)
        have HX6 := Lib.hid (HX5.out.below hb6 HX5.out.lt)
        have HY6 := Lib.hid (HY5.out.below hb6 HY5.out.lt)
        clear hb6 HX5 HY5 b0 b1 b2 b3 b4 b5 b6 b7 b8 b9 z0 z1 z2 z3 z4 z5 z6 z7 z8 z9
        have HBq : Hid (Below w.heap.size w w6) := HB.out.trans (HB6.out.mono HBz.out)
        go_wp2
        go_roundg (c.length - (k + 1))
        case measure => omega
        case rel => exact ⟨k + 1, by omega, by omega, by go_num, HBq.out⟩
    · obtain rfl : k = c.length := by omega
      have hlz : ¬ (c.length : Int) < (c.length : Int) := by omega
      go_wp2
      go_returns
      exact ⟨rfl, HB.out⟩
end Go.Proofs.YthhceggcdaljdaaGreat
