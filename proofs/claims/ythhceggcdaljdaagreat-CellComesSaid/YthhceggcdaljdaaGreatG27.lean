/- the document's: a record comes -/
import Derived.Test.YthhceggcdaljdaaGreatG17
import Derived.Test.YthhceggcdaljdaaGreatG21
import Derived.Test.YthhceggcdaljdaaGreatG24
import Derived.Test.YthhceggcdaljdaaGreatG26
import Derived.Deep.RegionWith
namespace Go.Proofs.YthhceggcdaljdaaGreat
open Go.RowKit
set_option linter.unusedVariables false
set_option linter.unusedSimpArgs false

theorem is_setB {w : World} {bo : Nat} {p : Option Addr} {n c : Nat} {l : List IV} (h : RI.Is w (.slice p n c) l) (hn : n ≠ 0 → ∀ b o, p = some ⟨b, o, none⟩ → b ≠ bo) (i : Nat) (u : Value) : RI.Is (w.setCell ⟨bo, i, none⟩ u) (.slice p n c) l := by
  rcases h with h | ⟨h0, b, off, cap, e, hb, hr⟩
  · exact .inl h
  · refine .inr ⟨h0, b, off, cap, e, by simpa [World.setCell] using hb, fun j hj k v hu => ?_⟩
    simp only [Value.slice.injEq] at e
    obtain ⟨e1, e2, e3⟩ := e
    have h1 : n ≠ 0 := by rw [e2]; intro q; exact h0 (List.eq_nil_of_length_eq_zero q)
    rw [← hr j hj k v hu]
    exact World.cell?_of_block (Below.heap_setCell w ⟨bo, i, none⟩ u b (hn h1 b off e1))
theorem is_ltB {w : World} {p : Option Addr} {n c : Nat} {l : List IV} (h : RI.Is w (.slice p n c) l) : n ≠ 0 → ∀ b o, p = some ⟨b, o, none⟩ → b < w.heap.size := fun hn b o e => by
  rcases h with ⟨h0, _, _, e1, _⟩ | ⟨h0, b', off', cap, e1, hb, hr⟩
  · simp only [Value.slice.injEq] at e1
    exact absurd (by rw [e1.2.1]) hn
  · simp only [Value.slice.injEq] at e1
    rw [e] at e1
    simp only [Option.some.injEq, Addr.mk.injEq] at e1
    omega
theorem own_geB {B : Nat} {w : World} {p : Option Addr} {n c : Nat} {l : List IV} (h : RI.Own B w (.slice p n c) l) : n ≠ 0 → ∀ b o, p = some ⟨b, o, none⟩ → B ≤ b := fun hn b o e => by
  obtain ⟨_, ⟨h1, h2⟩ | ⟨g, cap, cur, h1, hB, hg, _⟩⟩ := h
  · simp only [Value.slice.injEq] at h1
    exact absurd h1.2.1 hn
  · simp only [Value.slice.injEq] at h1
    rw [e] at h1
    simp only [Option.some.injEq, Addr.mk.injEq] at h1
    omega
/-- the bag of one port is another one, and it is dirty -/
def putW (port : Int) (x : SW) (p : Option Addr) (m cc : Nat) : SW := if port = 0 then ⟨x.t, p, m, cc, x.p1, x.n1, x.c1, x.p2, x.n2, x.c2, true, x.f⟩ else ⟨x.t, x.p0, x.n0, x.c0, p, m, cc, x.p2, x.n2, x.c2, true, x.f⟩
theorem isSl_putW {w W : World} {bo : Nat} {x : SW} {o : SV} (h : isSl w x o) (hb : w.heap.size = bo) (hW : Below w.heap.size w W) (port : Int) (r : RV) (n : Int) {p : Option Addr} {m cc : Nat} (ho : RI.Own w.heap.size W (.slice p m cc) (if port = 0 then addI o.a r n else addI o.b r n)) (hne : m ≠ 0 → ∀ b o, p = some ⟨b, o, none⟩ → b ≠ bo) (i j : Nat) (u v : Value) :
    isSl ((W.setCell ⟨bo, i, none⟩ u).setCell ⟨bo, j, none⟩ v) (putW port x p m cc) (putS o port r n) := by
  have hm : m = (if port = 0 then addI o.a r n else addI o.b r n).length := by obtain ⟨p', c', e⟩ := ho.is.slice; simp only [Value.slice.injEq] at e; exact e.2.1
  have hcap := ownCapI ho _ _ _ rfl
  have two : ∀ {p : Option Addr} {n c : Nat} {l : List IV}, RI.Is W (.slice p n c) l → (n ≠ 0 → ∀ b o, p = some ⟨b, o, none⟩ → b ≠ bo) → RI.Is ((W.setCell ⟨bo, i, none⟩ u).setCell ⟨bo, j, none⟩ v) (.slice p n c) l := fun h1 h2 => is_setB (is_setB h1 h2 i u) h2 j v
  have old : ∀ {p : Option Addr} {n c : Nat} {l : List IV}, RI.Is w (.slice p n c) l → RI.Is ((W.setCell ⟨bo, i, none⟩ u).setCell ⟨bo, j, none⟩ v) (.slice p n c) l := fun h1 => two (h1.below hW) fun hn b o e => by have := is_ltB h1 hn b o e; omega
  unfold putW putS
  by_cases e : port = 0
  · rw [if_pos e] at ho hm
    rw [if_pos e, if_pos e]
    exact ⟨h.t, rfl, h.f, hm, hcap, two ho.is hne, h.n1, h.k1, old h.l1, h.n2, h.k2, old h.l2⟩
  · rw [if_neg e] at ho hm
    rw [if_neg e, if_neg e]
    exact ⟨h.t, rfl, h.f, h.n0, h.k0, old h.l0, hm, hcap, two ho.is hne, h.n2, h.k2, old h.l2⟩
theorem areSl_snoc {w : World} {xs : List SW} {c : List SV} (h : areSl w xs c) {x : SW} {b : SV} (hx : isSl w x b) : areSl w (xs ++ [x]) (c ++ [b]) := by
  have hl := h.1
  refine ⟨by simp [hl], fun i hi => ?_⟩
  rw [List.length_append, List.length_singleton] at hi
  by_cases e : i < c.length
  · rw [getElem!_pos (xs ++ [x]) i (by simp; omega), getElem!_pos (c ++ [b]) i (by simp; omega), List.getElem_append_left (by omega), List.getElem_append_left e, ← getElem!_pos xs i (by omega), ← getElem!_pos c i e]
    exact h.2 i e
  · obtain rfl : i = c.length := by omega
    rw [getElem!_pos (xs ++ [x]) c.length (by simp; omega), getElem!_pos (c ++ [b]) c.length (by simp), List.getElem_append_right (by omega), List.getElem_append_right (by omega)]
    simp [hl]
    exact hx
theorem own_belowB {B S : Nat} {w w' : World} {v : Value} {xs : List SW} (h : RSl.Own B w v xs) (hl : ∀ k, v.ownBlock = some k → k < S) (hb : Below S w w') : RSl.Own B w' v xs := by
  obtain ⟨h1, h2 | ⟨g, cap, cur, rfl, hB, hg, hc, hm, hs, ht⟩⟩ := h
  · exact ⟨h1, .inl h2⟩
  · exact ⟨h1, .inr ⟨g, cap, cur, rfl, hB, (hb.block g (hl g rfl)).trans hg, hc, hm, hs, ht⟩⟩
def RowsK (B : Nat) (w0 w : World) (v : Value) (ys : List SW) (pre : List SV) : Prop := RSl.Own B w v ys ∧ areSl w0 ys pre
theorem RowsK.is {w0 w : World} {v : Value} {ys : List SW} {pre : List SV} (h : RowsK w0.heap.size w0 w v ys pre) (hb : Below w0.heap.size w0 w) : IsCl w v pre ∧ capOk v := ⟨⟨ys, h.1.is, h.2.below hb⟩, ownCapC h.1⟩
section
attribute [local go_sem ↓] storeSl eqTime
attribute [local simp] size_setRow
attribute [local go_sem] rowAt_head rowOf_alloc_at rowOf_alloc_past rowOf_drew rowOf_drewN rowOf_setRow_same rowOf_setRow_other one_int one_bool one_sliceS
set_option maxRecDepth 100000 in
set_option maxHeartbeats 64000000 in
theorem rcome_good0 (c : List SV) (v : Value) (kind : Int) (t : TV) (r : RV) (n : Int) (w : World) (hs : SmallC 100000 c) (h : IsCl w v c) (q2 : ¬ n = 0) (q3 : ¬ n < -2147483648) (q4 : ¬ 2147483648 < n) : Calls Tryz.prog 11 #[v, .int .i64 kind, .int .i64 0, TV.val t, RV.val r, .int .i64 n] w (ComeR c kind 0 t r n w) := by
  have hok : comeOk c 0 t n = (t.ok && rightSl c) := by
    unfold comeOk
    rw [decide_eq_true (by omega : ((0 : Int) = 0 ∨ (0 : Int) = 1) ∧ n ≠ 0 ∧ n ≤ 2147483648 ∧ -2147483648 ≤ n), Bool.and_true]
  have d2 : (n == 0) = false := by simp; exact q2
  have d3 : decide (n < -2147483648) = false := decide_eq_false q3
  have d4 : decide (2147483648 < n) = false := decide_eq_false q4
  have HN64 : Hid (-9223372036854775808 ≤ n ∧ n ≤ 9223372036854775807) := by rw [Hid]; omega
  clear q2 q3 q4
  have HOk := Lib.hid hok
  clear hok
  have HXs : Hid ((xS c t).a.length ≤ 100000 ∧ (xS c t).b.length ≤ 100000) := by
    unfold xS
    cases e : lookS c t with
    | none => exact ⟨Nat.zero_le _, Nat.zero_le _⟩
    | some x => exact ⟨(hs.2 x (lookS_mem e).1).1, (hs.2 x (lookS_mem e).1).2.1⟩
  have HNo : Hid (∀ w' u, (t.ok && rightSl c) = false → IsCl w' u c → capOk u → Below w.heap.size w w' → ComeR c kind 0 t r n w (.returned (.tuple #[u, .bool false, .bool false])) w') := fun w' u h0 h1 h2 h3 => come_no (HOk.out.trans h0) h1 h2 h3
  have HYes : Hid (∀ w' u l d, (t.ok && rightSl c) = true → l = lateL kind t c → d = comeS c kind 0 t r n → IsCl w' u d → capOk u → Below w.heap.size w w' → ComeR c kind 0 t r n w (.returned (.tuple #[u, .bool l, .bool true])) w') := fun w' u l d h0 h1 h2 h3 h4 h5 => come_yes (HOk.out.trans h0) h1 h2 h3 h4 h5
  generalize ComeR c kind 0 t r n w = R at HNo HYes ⊢
  clear HOk
  have HC := Lib.hid h
  obtain ⟨xs, hx0, hx1⟩ := h
  have HAr := Lib.hid hx1
  obtain ⟨pv, kv, rfl, ho⟩ := isOpenedD hx0
  have hxn : xs.length = c.length := hx1.1
  have hsz : c.length ≤ 100000 := hs.1
  have HSm := Lib.hid hs
  have hb0 := ((Below.refl w.heap.size w).alloc (Nat.le_refl _) (.cells #[.int .i64 t.d, .int .i64 t.c0, .int .i64 t.c1, .int .i64 t.c2, .int .i64 t.c3] 25)).alloc (by simp) (.cells #[.int .i64 r.k, .int .i64 r.v] 27)
  have hbt := (BT5.new w t).more (.cells #[.int .i64 r.k, .int .i64 r.v] 27)
  have hbr := BR2.new (w.alloc (.cells #[.int .i64 t.d, .int .i64 t.c0, .int .i64 t.c1, .int .i64 t.c2, .int .i64 t.c3] 25)) r
  rw [World.size_alloc] at hbr
  obtain ⟨rk, rv⟩ := r
  obtain ⟨td, t0, t1, t2, t3⟩ := t
  dsimp only at hb0 hbt hbr
  go_enter Tryz.func11, Tryz.ntmps11
  go_upto_region 1 with (fail)
  generalize (w.alloc (.cells #[.int .i64 td, .int .i64 t0, .int .i64 t1, .int .i64 t2, .int .i64 t3] 25)).alloc (.cells #[.int .i64 rk, .int .i64 rv] 27) = w0 at *
  have HB0 := Lib.hid hb0
  have HBt := Lib.hid hbt
  have HBr := Lib.hid hbr
  have HZt : Hid (w.heap.size < w0.heap.size ∧ w.heap.size + 1 < w0.heap.size) := ⟨hbt.l, hbr.l⟩
  have HC0 := Lib.hid (HC.out.below hb0)
  have HAr0 := Lib.hid (HAr.out.below hb0)
  have HO0 : Hid (RSl.Own w0.heap.size (w0.alloc (.cells #[] 40)) (.slice (some ⟨w0.heap.size, 0, none⟩) 0 0) []) := World.ownsRow_made w0 #[] 0 (Nat.le_refl _) (Nat.zero_le _) rfl
  have HBa := Lib.hid ((Below.refl w0.heap.size w0).alloc (Nat.le_refl _) (.cells #[] 40))
  have HZa := Lib.hid HBa.out.size
  have HI2 := Lib.hid ((hx0.below hb0).below HBa.out)
  have HLn : Hid (([] : List SW).length + xs.length ≤ 1000000) := by rw [Hid, List.length_nil, hxn]; omega
  have HOx : Hid (∀ j, j < c.length → ∃ b off, pv = some ⟨b, off, none⟩ ∧ b < w.heap.size ∧ RSl.Row w b off xs) := by rw [Hid, ← hxn]; exact ho
  rw [hxn] at HC HC0 HI2 ⊢
  clear hb0 hbt hbr hx0 hx1 ho hxn HC
  generalize hbtE : w.heap.size = bt at *
  have HW := Lib.hid hbtE
  clear hbtE
  go_upto_region 2 with (at_builtin; refine RowKind.Own.appendAny (R := RSl) (ys := xs) HO0.out HBa.out HZa.out rfl _ _ rfl rfl rfl HI2.out HLn.out ?_; intro v1 w1 hO1 hB1 hz1)
  have HB1 := Lib.hid hB1
  have HI1 : Hid (IsCl w1 v1 c ∧ capOk v1) := ⟨⟨xs, hO1.is, HAr0.out.below hB1⟩, ownCapC hO1⟩
  have HT := Lib.hid (rlist_ok ⟨td, t0, t1, t2, t3⟩ w1)
  obtain ⟨z0, z1, z2, z3, z4, zl⟩ := HBt.out.below hB1
  dsimp only at z0 z1 z2 z3 z4
  clear hO1 hB1 hz1 HO0 HBa HZa HI2 HLn
  generalize hto : TV.ok ⟨td, t0, t1, t2, t3⟩ = tok at *
  go_wp2_with fail
  refine (HT.out).mono ?_
  rintro e w2 ⟨lv, rfl, hb2⟩
  have HB2 := Lib.hid (bcall HB1.out hb2 HB1.out.size)
  have HI2 : Hid (IsCl w2 v1 c ∧ capOk v1) := ⟨HI1.out.1.below hb2, HI1.out.2⟩
  clear hb2 HT z0 z1 z2 z3 z4 zl HI1
  cases tok
  · have HX := Lib.hid (HNo.out w2 v1 rfl HI2.out.1 HI2.out.2 (HB0.out.trans (HB2.out.mono (Nat.le_of_lt HZt.out.1))))
    clear HNo HYes
    go_wp2
    first | exact HX.out | (go_returns; exact HX.out)
  · have HRi := Lib.hid (rrightC_any c (.slice pv c.length kv) w2 (HSm.out.mono (by decide)) (HC0.out.below HB2.out))
    generalize hrc : rightSl c = rc at *
    go_wp2_with fail
    refine (HRi.out).mono ?_
    rintro e w3 ⟨rfl, hb3⟩
    have HB3 := Lib.hid (bcall HB2.out hb3 HB2.out.size)
    have HI3 : Hid (IsCl w3 v1 c ∧ capOk v1) := ⟨HI2.out.1.below hb3, HI2.out.2⟩
    clear hb3 HRi HB2 HI2
    cases rc
    · have HX := Lib.hid (HNo.out w3 v1 rfl HI3.out.1 HI3.out.2 (HB0.out.trans (HB3.out.mono (Nat.le_of_lt HZt.out.1))))
      clear HNo HYes
      go_wp2
      first | exact HX.out | (go_returns; exact HX.out)
    · have HGd : Hid (GoodSl c) := of_decide_eq_true (p := GoodSl c) hrc
      have HY := Lib.hid (fun w' u l d => HYes.out w' u l d rfl)
      clear HNo HYes hrc hto HI3
      have HBw : Hid (∀ W, Below w3.heap.size w3 W → Below bt w W) := fun W hW => (HB0.out.trans (HB3.out.mono (Nat.le_of_lt HZt.out.1))).trans (hW.mono (Nat.le_trans (Nat.le_of_lt HZt.out.1) HB3.out.size))
      have HBt3 := Lib.hid (HBt.out.below HB3.out)
      have HBr3 := Lib.hid (HBr.out.below HB3.out)
      have HAr3 : Hid (areSl w3 xs c) := HAr0.out.below HB3.out
      have HRw : Hid (∀ W, Below w3.heap.size w3 W → ∀ b off, RSl.Row w b off xs → b < w.heap.size → RSl.Row W b off xs) := fun W hW b off hr hb => hr.below (HBw.out W hW) (HW.out ▸ hb)
      clear HB0 HBt HBr HC0 HAr0 HB1 HB3 HZt HAr
      obtain ⟨z0, z1, z2, z3, z4, zl⟩ := HBt3.out
      dsimp only at z0 z1 z2 z3 z4
      go_upto_region 6 with (fail)
      refine gen_world (fun W => Below w3.heap.size w3 W ∧ rowOf W w3.heap.size = some (swRow (freshW ⟨td, t0, t1, t2, t3⟩))) ⟨by first | exact below_setRS ((Below.refl _ _).alloc (Nat.le_refl _) _) (Nat.le_refl _) | exact (Below.refl _ _).alloc (Nat.le_refl _) _ | go_grown, by first | exact row_set_same (rowOf_alloc_at _ _ _ rfl) | exact rowOf_alloc_at _ _ _ rfl⟩ ?_
      rintro w4 ⟨hb4, hx4⟩
      have HB4 := Lib.hid hb4
      have HN4 : Hid (rowOf w4 w3.heap.size = some (swRow (freshW ⟨td, t0, t1, t2, t3⟩))) := hx4
      clear hb4 hx4 z0 z1 z2 z3 z4 zl
      generalize hboE : w3.heap.size = bo at *
      have HE3 := Lib.hid hboE
      clear hboE
      go_wp2
      go_loopg [19] c.length (fun gg i wr => ∃ (k : Nat) (x : SW) (o : SV), k ≤ c.length ∧ c.length - k ≤ gg ∧ i = .int .i64 (k : Int) ∧ Hid (Below bo w3 wr) ∧ Hid (rowOf wr bo = some (swRow x)) ∧ Hid (FoundK c ⟨td, t0, t1, t2, t3⟩ xs k x o))
      case atStart => exact ⟨0, _, _, Nat.zero_le _, by omega, rfl, HB4.out, HN4.out, ⟨.inr ⟨fun j hj => absurd hj (Nat.not_lt_zero j), rfl, rfl⟩⟩⟩
      case round =>
        obtain ⟨k, x, o, hkn, hg, rfl, HB, HN, HF⟩ := hrel
        clear HB4 HN4
        by_cases hlt : k < c.length
        · have hlz : (k : Int) < (c.length : Int) := by omega
          obtain ⟨b, off, rfl, hb, hrow⟩ := HOx.out k hlt
          have hxl : xs.length = c.length := HAr3.out.1
          obtain ⟨e0, e1, e2, e3, e4, e5, e6, e7, e8, e9⟩ := atSl (HRw.out wr (HE3.out ▸ HB.out) b off hrow (HW.out.symm ▸ hb)) k (by omega)
          have hxt := (HAr3.out.2 k hlt).t
          have HEq := eqT_eq xs[k]!.t ⟨td, t0, t1, t2, t3⟩
          rw [hxt] at HEq
          have HFn := Lib.hid (fun h => HF.out.next h)
          have HFy : Hid ((c[k]!).t = ⟨td, t0, t1, t2, t3⟩ → FoundK c ⟨td, t0, t1, t2, t3⟩ xs (k + 1) xs[k]! c[k]!) := fun h => ⟨.inl ⟨k, Nat.lt_succ_self k, hlt, h, rfl, rfl⟩⟩
          have N0 := HN.out
          have HBt4 := Lib.hid (HBt3.out.below (HE3.out.symm ▸ HB.out))
          rw [← hxt] at HEq HFn HFy
          generalize hx0 : xs[k]! = xk at *
          clear hx0
          obtain ⟨⟨x0, x1, x2, x3, x4⟩, p0, n0, c0, p1, n1, c1, p2, n2, c2, xd, xf⟩ := xk
          dsimp only at e0 e1 e2 e3 e4 e5 e6 e7 e8 e9 HEq HFn HFy
          have P0 := fun p => beh_cell e0 p
          have P1 := fun p => beh_cell e1 p
          have P2 := fun p => beh_cell e2 p
          have P3 := fun p => beh_cell e3 p
          have P4 := fun p => beh_cell e4 p
          have B0 := fun p => beh_cell HBt4.out.c0 p
          have B1 := fun p => beh_cell HBt4.out.c1 p
          have B2 := fun p => beh_cell HBt4.out.c2 p
          have B3 := fun p => beh_cell HBt4.out.c3 p
          have B4 := fun p => beh_cell HBt4.out.c4 p
          dsimp only at B0 B1 B2 B3 B4
          clear hrow hxl hxt HN
          cases heq : eqT ⟨x0, x1, x2, x3, x4⟩ ⟨td, t0, t1, t2, t3⟩
          · rw [heq] at HEq
            have HF2 := Lib.hid (HFn.out (of_decide_eq_false HEq.symm))
            clear HFn HFy HEq e5 e6 e7 e8 e9
            go_wp2_with fail
            refine wp_region_beh (by kernel_rfl) (by kernel_rfl) ?_
            repeat (first | go_big_quiet_step (fail) | quiet_step (fail))
            refine wpQuiet_nil ?_
            intro _ hw'
            obtain ⟨g, hw''⟩ := hw'
            subst hw''
            have HBg := Lib.hid (bcall HB.out g.h (HE3.out ▸ HB.out.size))
            have HNg := Lib.hid (rowOf_below N0 g.h (rowOf_lt N0))
            generalize g.w = wq at *
            clear g P0 P1 P2 P3 P4 B0 B1 B2 B3 B4
            go_wp2
            go_roundg (c.length - (k + 1))
            case measure => omega
            case rel => exact ⟨k + 1, x, o, by omega, by omega, by go_num, HBg.out, HNg.out, HF2.out⟩
          · rw [heq] at HEq
            have HF2 := Lib.hid (HFy.out (of_decide_eq_true HEq.symm))
            clear HFn HFy HEq
            go_wp2_with fail
            refine wp_region_beh (by kernel_rfl) (by kernel_rfl) ?_
            repeat (first | go_big_quiet_step (fail) | quiet_step (fail))
            refine wpQuiet_nil ?_
            intro _ hw'
            obtain ⟨g, hw''⟩ := hw'
            subst hw''
            have HBg := Lib.hid (bcall HB.out g.h (HE3.out ▸ HB.out.size))
            have Ng := rowOf_below N0 g.h (rowOf_lt N0)
            replace e0 := P0 g
            replace e1 := P1 g
            replace e2 := P2 g
            replace e3 := P3 g
            replace e4 := P4 g
            replace e5 := beh_cell e5 g
            replace e6 := beh_cell e6 g
            replace e7 := beh_cell e7 g
            replace e8 := beh_cell e8 g
            replace e9 := beh_cell e9 g
            clear N0
            generalize g.w = wq at *
            clear g P0 P1 P2 P3 P4 B0 B1 B2 B3 B4
            go_wp2
            have hnb := below_setRS (c := #[.int .i64 x0, .int .i64 x1, .int .i64 x2, .int .i64 x3, .int .i64 x4, .slice p0 n0 c0, .slice p1 n1 c1, .slice p2 n2 c2, .bool xd, .bool xf]) HBg.out (Nat.le_refl bo)
            have hnn := row_set_same (c' := #[.int .i64 x0, .int .i64 x1, .int .i64 x2, .int .i64 x3, .int .i64 x4, .slice p0 n0 c0, .slice p1 n1 c1, .slice p2 n2 c2, .bool xd, .bool xf]) Ng
            go_roundg (c.length - (k + 1))
            case measure => omega
            case rel => exact ⟨k + 1, ⟨⟨x0, x1, x2, x3, x4⟩, p0, n0, c0, p1, n1, c1, p2, n2, c2, xd, xf⟩, c[k]!, by omega, by omega, by go_num, hnb, hnn, HF2.out⟩
        · obtain rfl : k = c.length := by omega
          have hlz : ¬ (c.length : Int) < (c.length : Int) := by omega
          have hoS := HF.out.done HGd.out
          have HIx := Lib.hid (HF.out.is HAr3.out)
          subst hoS
          clear HF
          obtain ⟨⟨x0, x1, x2, x3, x4⟩, p0, n0, c0, p1, n1, c1, p2, n2, c2, xd, xf⟩ := x
          have hN := HN.out
          have b0 : wr.cell? ⟨bo, 0, none⟩ = some (.int .i64 x0) := rowOf_cell hN 0
          have b1 : wr.cell? ⟨bo, 1, none⟩ = some (.int .i64 x1) := rowOf_cell hN 1
          have b2 : wr.cell? ⟨bo, 2, none⟩ = some (.int .i64 x2) := rowOf_cell hN 2
          have b3 : wr.cell? ⟨bo, 3, none⟩ = some (.int .i64 x3) := rowOf_cell hN 3
          have b4 : wr.cell? ⟨bo, 4, none⟩ = some (.int .i64 x4) := rowOf_cell hN 4
          have b5 : wr.cell? ⟨bo, 5, none⟩ = some (.slice p0 n0 c0) := rowOf_cell hN 5
          have b6 : wr.cell? ⟨bo, 6, none⟩ = some (.slice p1 n1 c1) := rowOf_cell hN 6
          have b7 : wr.cell? ⟨bo, 7, none⟩ = some (.slice p2 n2 c2) := rowOf_cell hN 7
          have b8 : wr.cell? ⟨bo, 8, none⟩ = some (.bool xd) := rowOf_cell hN 8
          have b9 : wr.cell? ⟨bo, 9, none⟩ = some (.bool xf) := rowOf_cell hN 9
          generalize hoE : xS c ⟨td, t0, t1, t2, t3⟩ = o at *
          have HoE := Lib.hid hoE
          have hxd := HIx.out.d
          have hxf := HIx.out.f
          have HSt0 : Hid ((xf && !xd) = lateK c kind ⟨td, t0, t1, t2, t3⟩ 0) := by rw [Hid, lateK_zero, hoE, ← hxd, ← hxf]
          clear hoE hxd hxf hN
          go_upto_region 11 with (fail)
          go_cut [20] from 80 to 86 (fun v wx => v = .bool (xf && !xd) ∧ wr = wx)
          case first =>
            cases xf
            · go_wp2_with fail
              go_meet
              exact ⟨rfl, rfl⟩
            · cases xd
              · go_wp2_with fail
                go_meet
                exact ⟨rfl, rfl⟩
              · go_wp2_with fail
                go_meet
                exact ⟨rfl, rfl⟩
          case rest =>
            obtain ⟨rfl, hwrc⟩ := hcut
            subst hwrc
            have HBW : Hid (∀ W, Below wr.heap.size wr W → Below bo w3 W) := fun W hW => HB.out.trans (hW.mono (HE3.out ▸ HB.out.size))
            have HAdd := Lib.hid (fun W (hW : Below wr.heap.size wr W) => radd_any o.a ⟨rk, rv⟩ n (.slice p0 n0 c0) W (by have := HXs.out; omega) HN64.out (HIx.out.l0.below (HE3.out.symm ▸ HBW.out W hW)))
            have HK : Hid (∀ W, Below wr.heap.size wr W → W.cell? ⟨bo, 5, none⟩ = some (.slice p0 n0 c0) ∧ W.frozen? ⟨bo, 5, none⟩ = false ∧ W.cell? ⟨bo, 8, none⟩ = some (.bool xd) ∧ W.frozen? ⟨bo, 8, none⟩ = false ∧ W.cell? ⟨bt + 1, 0, none⟩ = some (.int .i64 rk) ∧ W.cell? ⟨bt + 1, 1, none⟩ = some (.int .i64 rv)) := fun W hW => ⟨rowOf_cell (rowOf_below HN.out hW (rowOf_lt HN.out)) 5, rowOf_frozen (rowOf_below HN.out hW (rowOf_lt HN.out)) 5, rowOf_cell (rowOf_below HN.out hW (rowOf_lt HN.out)) 8, rowOf_frozen (rowOf_below HN.out hW (rowOf_lt HN.out)) 8, (HBr3.out.below (HE3.out.symm ▸ HBW.out W hW)).c0, (HBr3.out.below (HE3.out.symm ▸ HBW.out W hW)).c1⟩
            obtain ⟨e5, e5f, e8, e8f, e0, e1⟩ := HK.out wr (Below.refl _ _)
            have HZo : Hid (bo < wr.heap.size) := rowOf_lt HN.out
            clear b0 b1 b2 b3 b4 b5 b6 b7 b8 b9
            go_upto_region 12 with (fail)
            go_region_with (go_at_call 53; refine (HAdd.out _ (by repeat' (first | exact Below.refl _ _ | apply Below.drew | apply below_drewN))).mono ?_; rintro e wa ⟨va, rfl, hOa, hBa⟩; obtain ⟨pa, ca, rfl⟩ := hOa.is.slice; have hB1 : Below wr.heap.size wr wa := bcall (by repeat' (first | exact Below.refl _ _ | apply Below.drew | apply below_drewN)) hBa (Nat.le_refl _); obtain ⟨y5, y5f, y8, y8f, y0, y1⟩ := HK.out wa hB1)
            all_goals
              try simp only [List.getElem_toArray, List.getElem_cons_succ, List.getElem_cons_zero, Act.put, List.setIfInBounds_toArray, List.set_cons_zero, List.set_cons_succ]
              have hOa2 : RI.Own wr.heap.size wa (.slice pa (addI o.a ⟨rk, rv⟩ n).length ca) (addI o.a ⟨rk, rv⟩ n) := hOa
              have HOa := Lib.hid hOa2
              have HBa := Lib.hid hB1
              have HNa := Lib.hid (rowOf_below HN.out hB1 (rowOf_lt HN.out))
              clear hOa hOa2 hBa hB1 e5 e5f e8 e8f e0 e1 HAdd HK
              have hb12 : bt + 1 ≠ bo := by have := HBr3.out.l; have := HE3.out; omega
              go_upto_region 14 with (fail)
              refine gen_world (fun W => Below bo w3 W ∧ rowOf W bo = some (swRow (putW 0 ⟨⟨x0, x1, x2, x3, x4⟩, p0, n0, c0, p1, n1, c1, p2, n2, c2, xd, xf⟩ pa (addI o.a ⟨rk, rv⟩ n).length ca)) ∧ isSl W (putW 0 ⟨⟨x0, x1, x2, x3, x4⟩, p0, n0, c0, p1, n1, c1, p2, n2, c2, xd, xf⟩ pa (addI o.a ⟨rk, rv⟩ n).length ca) (putS o 0 ⟨rk, rv⟩ n)) ⟨((HBW.out wa HBa.out).setCell (p := ⟨bo, _, none⟩) (Nat.le_refl _) _).setCell (p := ⟨bo, _, none⟩) (Nat.le_refl _) _, row_cell_same (row_cell_same HNa.out rfl) rfl, isSl_putW HIx.out HE3.out (HE3.out.symm ▸ HBW.out wa HBa.out) 0 ⟨rk, rv⟩ n (by rw [if_pos rfl]; exact HOa.out.mono (by have := HE3.out; have := HZo.out; omega)) (fun hn b q e => by have := own_geB HOa.out hn b q e; have := HZo.out; omega) _ _ _ _⟩ ?_
              rintro w5 ⟨hb5, hn5, hi5⟩
              have HB5 := Lib.hid hb5
              have HN5 := Lib.hid hn5
              have HI5 := Lib.hid hi5
              have HOwn : Hid (ownS c 0 ⟨td, t0, t1, t2, t3⟩ ⟨rk, rv⟩ n = putS o 0 ⟨rk, rv⟩ n) := by rw [Hid, ← HoE.out]; rfl
              have HOt : Hid ((putS o 0 ⟨rk, rv⟩ n).t = ⟨td, t0, t1, t2, t3⟩) := by rw [Hid, putS_t, ← HoE.out, xS_t]
              generalize putW 0 ⟨⟨x0, x1, x2, x3, x4⟩, p0, n0, c0, p1, n1, c1, p2, n2, c2, xd, xf⟩ pa (addI o.a ⟨rk, rv⟩ n).length ca = ow at *
              generalize putS o 0 ⟨rk, rv⟩ n = own at *
              clear hb5 hn5 hi5 HOa HBa HNa HBW HB HN HIx HXs y5 y5f y8 y8f y0 y1 hb12 HZo
              have HE := Lib.hid (cempty_any ow w5)
              rw [HI5.out.emptyB] at HE
              obtain ⟨⟨a0, a1, a2, a3, a4⟩, u0, m0, k0, u1, m1, k1, u2, m2, k2, yd, yf⟩ := ow
              have hN5 := HN5.out
              have b0 : w5.cell? ⟨bo, 0, none⟩ = some (.int .i64 a0) := rowOf_cell hN5 0
              have b1 : w5.cell? ⟨bo, 1, none⟩ = some (.int .i64 a1) := rowOf_cell hN5 1
              have b2 : w5.cell? ⟨bo, 2, none⟩ = some (.int .i64 a2) := rowOf_cell hN5 2
              have b3 : w5.cell? ⟨bo, 3, none⟩ = some (.int .i64 a3) := rowOf_cell hN5 3
              have b4 : w5.cell? ⟨bo, 4, none⟩ = some (.int .i64 a4) := rowOf_cell hN5 4
              have b5 : w5.cell? ⟨bo, 5, none⟩ = some (.slice u0 m0 k0) := rowOf_cell hN5 5
              have b6 : w5.cell? ⟨bo, 6, none⟩ = some (.slice u1 m1 k1) := rowOf_cell hN5 6
              have b7 : w5.cell? ⟨bo, 7, none⟩ = some (.slice u2 m2 k2) := rowOf_cell hN5 7
              have b8 : w5.cell? ⟨bo, 8, none⟩ = some (.bool yd) := rowOf_cell hN5 8
              have b9 : w5.cell? ⟨bo, 9, none⟩ = some (.bool yf) := rowOf_cell hN5 9
              try dsimp only at HE
              generalize hem : own.empty = em at HE
              have HEm := Lib.hid hem
              clear hN5 hem
              go_wp2_with fail
              refine (HE.out).mono ?_
              rintro e w6 ⟨rfl, hb6⟩
              have HB6 := Lib.hid (HB5.out.trans (hb6.mono (HE3.out ▸ HB5.out.size)))
              have HN6 := Lib.hid (rowOf_below HN5.out hb6 (rowOf_lt HN5.out))
              have HI6 := Lib.hid (HI5.out.below hb6)
              have hbw6 : Below w3.heap.size w3 w6 := HE3.out.symm ▸ HB6.out
              have HA6 := Lib.hid (HAr3.out.below hbw6)
              have HT6 := Lib.hid (HBt3.out.below hbw6)
              have HW6 : Hid (∀ W, Below w6.heap.size w6 W → Below bt w W) := fun W hW => HBw.out W (HE3.out.symm ▸ (HB6.out.trans (hW.mono (HE3.out ▸ HB6.out.size))))
              have HR6 : Hid (∀ W, Below w6.heap.size w6 W → ∀ b off, RSl.Row w b off xs → b < w.heap.size → RSl.Row W b off xs) := fun W hW b off hr hb => hr.below (HW6.out W hW) (HW.out ▸ hb)
              clear hb6 hbw6 HE HB5 HN5 HI5 HRw HBw HBt3 HBr3 HAr3 HB6 b0 b1 b2 b3 b4 b5 b6 b7 b8 b9
              have HStart : Hid (RowsK w6.heap.size w6 w6 (.slice none 0 0) [] []) := ⟨RowKind.Own.nil RSl _ _, rfl, fun i hi => absurd hi (Nat.not_lt_zero i)⟩
              have HO0 : Hid (OutK kind own c own.empty 0 [] em) := by rw [Hid, HEm.out]; exact OutK.start _ _ _ _
              rw [HSt0.out]
              go_wp2
              go_loopg [20, 21, 22, 23] c.length (fun gg st ou dn i wz => ∃ (k : Nat) (pre : List SV) (ys : List SW) (d : Bool), k ≤ c.length ∧ c.length - k ≤ gg ∧ st = .bool (lateK c kind ⟨td, t0, t1, t2, t3⟩ k) ∧ dn = .bool d ∧ i = .int .i64 (k : Int) ∧ Hid (Below w6.heap.size w6 wz) ∧ Hid (RowsK w6.heap.size w6 wz ou ys pre) ∧ Hid (OutK kind own c own.empty k pre d))
              case atStart => exact ⟨0, [], [], em, Nat.zero_le _, by omega, rfl, rfl, rfl, Below.refl _ _, HStart.out, HO0.out⟩
              case round =>
                obtain ⟨k, pre, ys, d, hkn, hg, rfl, rfl, rfl, HB7, HR7, HO7⟩ := hrel
                clear HStart HO0
                by_cases hlt : k < c.length
                · have hlz : (k : Int) < (c.length : Int) := by omega
                  obtain ⟨b, off, rfl, hb, hrow⟩ := HOx.out k hlt
                  have hxl : xs.length = c.length := HA6.out.1
                  obtain ⟨e0, e1, e2, e3, e4, e5, e6, e7, e8, e9⟩ := atSl (HR6.out wr HB7.out b off hrow (HW.out.symm ▸ hb)) k (by omega)
                  have hx := HA6.out.2 k hlt
                  have HXk := Lib.hid hx
                  have HMk := Lib.hid (isSl_mark hx kind ⟨td, t0, t1, t2, t3⟩)
                  have hlk0 := lateK_succ c kind ⟨td, t0, t1, t2, t3⟩ k hlt
                  have HEq := eqT_eq xs[k]!.t ⟨td, t0, t1, t2, t3⟩
                  rw [hx.t] at HEq
                  have HSame := Lib.hid (fun h => HO7.out.same hlt h)
                  have HOld := Lib.hid (fun h1 h2 => HO7.out.old hlt h1 h2)
                  have HNew : Hid (d = false → ¬ (c[k]!).t = own.t → own.t.lt (c[k]!).t = true → OutK kind own c own.empty (k + 1) (pre ++ [own] ++ [markS kind own.t c[k]!]) true) := fun h1 h2 h3 => by subst h1; exact HO7.out.new hlt h2 h3
                  rw [HOt.out] at HSame HOld HNew
                  have HLx : Hid (lateX kind ⟨td, t0, t1, t2, t3⟩ c[k]! = (decide ((c[k]!).t ≠ ⟨td, t0, t1, t2, t3⟩) && ((decide (kind = 14) && TV.le ⟨td, t0, t1, t2, t3⟩ (c[k]!).t) && ((c[k]!).fired && !(c[k]!).dirty)))) := rfl
                  rw [← hx.f, ← hx.d] at HLx
                  have hxt := hx.t
                  generalize markS kind ⟨td, t0, t1, t2, t3⟩ c[k]! = mk at *
                  rw [← hxt] at HEq HSame HOld HNew HLx HMk
                  have HLe0 := Lib.hid (fun W => rtle_any ⟨td, t0, t1, t2, t3⟩ (c[k]!).t W)
                  have HLs0 := Lib.hid (fun W => rtlt_any ⟨td, t0, t1, t2, t3⟩ (c[k]!).t W)
                  rw [← hxt] at HLe0 HLs0
                  have HPl : Hid (pre.length ≤ k + 1) := HO7.out.len
                  have HYl : Hid (ys.length = pre.length) := HR7.out.2.1
                  generalize lateX kind ⟨td, t0, t1, t2, t3⟩ c[k]! = lx at *
                  generalize xs[k]! = x at *
                  obtain ⟨⟨x0, x1, x2, x3, x4⟩, p0, n0, c0, p1, n1, c1, p2, n2, c2, xd, xf⟩ := x
                  dsimp only at e0 e1 e2 e3 e4 e5 e6 e7 e8 e9 HEq HSame HOld HNew HLx HLe0 HLs0
                  have HLk := Lib.hid hlk0
                  clear hlk0
                  clear hrow hxl hx hxt
                  go_upto_region 20 with (fail)
                  refine gen_world (fun W => Below wr.heap.size wr W ∧ Boxed W wr.heap.size #[.int .i64 x0, .int .i64 x1, .int .i64 x2, .int .i64 x3, .int .i64 x4, .slice p0 n0 c0, .slice p1 n1 c1, .slice p2 n2 c2, .bool xd, .bool xf] 40) ⟨by first | exact below_setRS ((Below.refl _ _).alloc (Nat.le_refl _) _) (Nat.le_refl _) | exact (Below.refl _ _).alloc (Nat.le_refl _) _ | go_grown, by first | exact RowKind.heap_set (heap_alloc_new _ _) | exact heap_alloc_new _ _⟩ ?_
                  rintro w8 ⟨hb8, hx8⟩
                  have HB8 := Lib.hid (bcall HB7.out hb8 HB7.out.size)
                  have HR8 : Hid (RowsK w6.heap.size w6 w8 u21 ys pre) := ⟨HR7.out.1.below hb8, HR7.out.2⟩
                  have HX8 := Lib.hid hx8
                  have HNe : Hid (some wr.heap.size ≠ u21.ownBlock) := fun e => by have := (HR7.out.1.lt _ e.symm).2; omega
                  have HOlt : Hid (∀ q, u21.ownBlock = some q → q < wr.heap.size) := fun q e => (HR7.out.1.lt q e).2
                  have HSb : Hid (w6.heap.size ≤ wr.heap.size) := HB7.out.size
                  generalize hsb : wr.heap.size = sb at *
                  have HS8 : Hid (sb < w8.heap.size) := hx8.lt
                  have b0 : w8.cell? ⟨sb, 0, none⟩ = some (.int .i64 x0) := hx8.cell 0
                  have b1 : w8.cell? ⟨sb, 1, none⟩ = some (.int .i64 x1) := hx8.cell 1
                  have b2 : w8.cell? ⟨sb, 2, none⟩ = some (.int .i64 x2) := hx8.cell 2
                  have b3 : w8.cell? ⟨sb, 3, none⟩ = some (.int .i64 x3) := hx8.cell 3
                  have b4 : w8.cell? ⟨sb, 4, none⟩ = some (.int .i64 x4) := hx8.cell 4
                  have b5 : w8.cell? ⟨sb, 5, none⟩ = some (.slice p0 n0 c0) := hx8.cell 5
                  have b6 : w8.cell? ⟨sb, 6, none⟩ = some (.slice p1 n1 c1) := hx8.cell 6
                  have b7 : w8.cell? ⟨sb, 7, none⟩ = some (.slice p2 n2 c2) := hx8.cell 7
                  have b8 : w8.cell? ⟨sb, 8, none⟩ = some (.bool xd) := hx8.cell 8
                  have b9 : w8.cell? ⟨sb, 9, none⟩ = some (.bool xf) := hx8.cell 9
                  obtain ⟨z0, z1, z2, z3, z4, zl⟩ := HT6.out.below HB8.out
                  dsimp only at z0 z1 z2 z3 z4
                  have hbt8 : bt ≠ sb := fun e => by have h1 := HT6.out.l; have h2 := HB7.out.size; rw [e] at h1; omega
                  clear hb8 hx8 e0 e1 e2 e3 e4 e5 e6 e7 e8 e9 HR7 hsb
                  cases heq : eqT ⟨x0, x1, x2, x3, x4⟩ ⟨td, t0, t1, t2, t3⟩
                  · rw [heq] at HEq
                    have hne : ¬ (⟨x0, x1, x2, x3, x4⟩ : TV) = ⟨td, t0, t1, t2, t3⟩ := of_decide_eq_false HEq.symm
                    have HLx2 : Hid (lx = ((decide (kind = 14) && TV.le ⟨td, t0, t1, t2, t3⟩ ⟨x0, x1, x2, x3, x4⟩) && (xf && !xd))) := by rw [Hid, HLx.out, decide_eq_true hne, Bool.true_and]
                    have HNe2 := Lib.hid hne
                    clear HSame HEq hne HLx
                    rw [HLx2.out] at HLk
                    generalize hl2 : lateK c kind ⟨td, t0, t1, t2, t3⟩ (k + 1) = la2 at *
                    have HL2 := Lib.hid hl2
                    clear hl2
                    generalize lateK c kind ⟨td, t0, t1, t2, t3⟩ k = la at *
                    generalize hmm : (decide (kind = 14) && TV.le ⟨td, t0, t1, t2, t3⟩ ⟨x0, x1, x2, x3, x4⟩) = mm at *
                    have HMm := Lib.hid hmm
                    clear HLx2 hmm
                    go_upto_region 21 with (fail)
                    go_cut [121] from 114 to 120 (fun v wx => v = .bool mm ∧ Hid (Below w8.heap.size w8 wx))
                    case first =>
                      by_cases h14 : kind = 14
                      · subst h14
                        have HMt : Hid (mm = TV.le ⟨td, t0, t1, t2, t3⟩ ⟨x0, x1, x2, x3, x4⟩) := by rw [Hid, ← HMm.out]; rfl
                        have HLe1 := Lib.hid (HLe0.out w8)
                        rw [← HMt.out] at HLe1
                        clear HMm HMt HLe0 HLs0 HOld HNew
                        go_wp2_with fail
                        refine (HLe1.out).mono ?_
                        rintro e w9 ⟨rfl, hb9⟩
                        have HB9 := Lib.hid hb9
                        clear hb9 HLe1
                        go_wp2_with fail
                        go_meet
                        exact ⟨rfl, HB9.out⟩
                      · have h14z : (kind == 14) = false := by simp; exact h14
                        have hm0 : mm = false := by rw [← HMm.out, decide_eq_false h14]; rfl
                        clear HMm HLe0 HLs0 HOld HNew
                        subst hm0
                        go_wp2_with fail
                        go_meet
                        exact ⟨rfl, Below.refl _ _⟩
                    case rest =>
                     obtain ⟨rfl, HB9⟩ := hcut
                     obtain ⟨w9, hw9⟩ : ∃ w9, w9 = wc := ⟨_, rfl⟩
                     subst hw9
                     have HX9 := Lib.hid (HX8.out.below HB9.out HS8.out)
                     have y3 : w9.cell? ⟨sb, 8, none⟩ = some (.bool xd) := HX9.out.cell 8
                     have y4 : w9.cell? ⟨sb, 9, none⟩ = some (.bool xf) := HX9.out.cell 9
                     have y3f : w9.frozen? ⟨sb, 8, none⟩ = false := HX9.out.frozen 8
                     clear b0 b1 b2 b3 b4 b5 b6 b7 b8 b9 z0 z1 z2 z3 z4 zl HX8
                     go_upto_if 121 with (fail)
                     go_cut [20] from 122 to 132 (fun v wx => v = .bool la2 ∧ Hid (Below sb w8 wx) ∧ Hid (w8.heap.size ≤ wx.heap.size) ∧ Hid (Boxed wx sb #[.int .i64 x0, .int .i64 x1, .int .i64 x2, .int .i64 x3, .int .i64 x4, .slice p0 n0 c0, .slice p1 n1 c1, .slice p2 n2 c2, .bool (xd || mm), .bool xf] 40))
                     case first =>
                      cases mm
                      · rw [Bool.false_and, Bool.or_false] at HLk
                        go_wp2_with fail
                        go_meet
                        exact ⟨by rw [HLk.out], HB9.out.mono (Nat.le_of_lt HS8.out), HB9.out.size, by rw [Bool.or_false]; exact HX9.out⟩
                      · rw [Bool.true_and] at HLk
                        cases la
                        · cases xf
                          · go_wp2_with fail
                            go_meet
                            exact ⟨by rw [HLk.out]; rfl, (HB9.out.mono (Nat.le_of_lt HS8.out)).setCell (p := ⟨sb, 8, none⟩) (Nat.le_refl _) _, by simp [World.setCell]; exact HB9.out.size, by rw [Bool.or_true]; exact heap_setCell1 HX9.out 8 _⟩
                          · cases xd
                            · go_wp2_with fail
                              go_meet
                              exact ⟨by rw [HLk.out]; rfl, (HB9.out.mono (Nat.le_of_lt HS8.out)).setCell (p := ⟨sb, 8, none⟩) (Nat.le_refl _) _, by simp [World.setCell]; exact HB9.out.size, by exact heap_setCell1 HX9.out 8 _⟩
                            · go_wp2_with fail
                              go_meet
                              exact ⟨by rw [HLk.out]; rfl, (HB9.out.mono (Nat.le_of_lt HS8.out)).setCell (p := ⟨sb, 8, none⟩) (Nat.le_refl _) _, by simp [World.setCell]; exact HB9.out.size, by exact heap_setCell1 HX9.out 8 _⟩
                        · go_wp2_with fail
                          go_meet
                          exact ⟨by rw [HLk.out]; simp, (HB9.out.mono (Nat.le_of_lt HS8.out)).setCell (p := ⟨sb, 8, none⟩) (Nat.le_refl _) _, by simp [World.setCell]; exact HB9.out.size, by rw [Bool.or_true]; exact heap_setCell1 HX9.out 8 _⟩
                     case rest =>
                      obtain ⟨rfl, HBc, HZc, HXc⟩ := hcut
                      obtain ⟨w10, hw10⟩ : ∃ w10, w10 = wc := ⟨_, rfl⟩
                      subst hw10
                      clear y3 y4 y3f HX9 HB9
                      generalize hmd : (xd || mm) = md at *
                      have HMd : Hid (isSl w6 ⟨⟨x0, x1, x2, x3, x4⟩, p0, n0, c0, p1, n1, c1, p2, n2, c2, md, xf⟩ mk) := by
                        have q := HMk.out
                        unfold markW at q
                        dsimp only at q
                        rw [hmd] at q
                        exact q
                      have HB10 := Lib.hid (HB8.out.trans (HBc.out.mono HSb.out))
                      have HR10 : Hid (RSl.Own w6.heap.size w10 u21 ys) := own_belowB HR8.out.1 HOlt.out HBc.out
                      have HN10 := Lib.hid (rowOf_below HN6.out HB10.out (rowOf_lt HN6.out))
                      have HLn : Hid (ys.length ≤ 900000) := by have h1 := HYl.out; have h2 := HPl.out; rw [Hid]; omega
                      have HS10 : Hid (sb < w10.heap.size) := Nat.lt_of_lt_of_le HS8.out HZc.out
                      have hXc := HXc.out
                      have b0 : w10.cell? ⟨sb, 0, none⟩ = some (.int .i64 x0) := hXc.cell 0
                      have b1 : w10.cell? ⟨sb, 1, none⟩ = some (.int .i64 x1) := hXc.cell 1
                      have b2 : w10.cell? ⟨sb, 2, none⟩ = some (.int .i64 x2) := hXc.cell 2
                      have b3 : w10.cell? ⟨sb, 3, none⟩ = some (.int .i64 x3) := hXc.cell 3
                      have b4 : w10.cell? ⟨sb, 4, none⟩ = some (.int .i64 x4) := hXc.cell 4
                      have b5 : w10.cell? ⟨sb, 5, none⟩ = some (.slice p0 n0 c0) := hXc.cell 5
                      have b6 : w10.cell? ⟨sb, 6, none⟩ = some (.slice p1 n1 c1) := hXc.cell 6
                      have b7 : w10.cell? ⟨sb, 7, none⟩ = some (.slice p2 n2 c2) := hXc.cell 7
                      have b8 : w10.cell? ⟨sb, 8, none⟩ = some (.bool md) := hXc.cell 8
                      have b9 : w10.cell? ⟨sb, 9, none⟩ = some (.bool xf) := hXc.cell 9
                      clear hXc
                      cases d
                      · have HLs1 := Lib.hid (HLs0.out w10)
                        generalize TV.lt ⟨td, t0, t1, t2, t3⟩ ⟨x0, x1, x2, x3, x4⟩ = lt at *
                        obtain ⟨z0, z1, z2, z3, z4, zl⟩ := HT6.out.below HB10.out
                        dsimp only at z0 z1 z2 z3 z4
                        go_wp2_with fail
                        refine (HLs1.out).mono ?_
                        rintro e w11 ⟨rfl, hb11⟩
                        have HB11 := Lib.hid (bcall HB10.out hb11 HB10.out.size)
                        have HR11 := Lib.hid (HR10.out.below hb11)
                        have HN11 := Lib.hid (rowOf_below HN10.out hb11 (rowOf_lt HN10.out))
                        have HX11 := Lib.hid (HXc.out.below hb11 HS10.out)
                        clear hb11 HLs1 b0 b1 b2 b3 b4 b5 b6 b7 b8 b9 z0 z1 z2 z3 z4 zl
                        have hX11 := HX11.out
                        have b0 : w11.cell? ⟨sb, 0, none⟩ = some (.int .i64 x0) := hX11.cell 0
                        have b1 : w11.cell? ⟨sb, 1, none⟩ = some (.int .i64 x1) := hX11.cell 1
                        have b2 : w11.cell? ⟨sb, 2, none⟩ = some (.int .i64 x2) := hX11.cell 2
                        have b3 : w11.cell? ⟨sb, 3, none⟩ = some (.int .i64 x3) := hX11.cell 3
                        have b4 : w11.cell? ⟨sb, 4, none⟩ = some (.int .i64 x4) := hX11.cell 4
                        have b5 : w11.cell? ⟨sb, 5, none⟩ = some (.slice p0 n0 c0) := hX11.cell 5
                        have b6 : w11.cell? ⟨sb, 6, none⟩ = some (.slice p1 n1 c1) := hX11.cell 6
                        have b7 : w11.cell? ⟨sb, 7, none⟩ = some (.slice p2 n2 c2) := hX11.cell 7
                        have b8 : w11.cell? ⟨sb, 8, none⟩ = some (.bool md) := hX11.cell 8
                        have b9 : w11.cell? ⟨sb, 9, none⟩ = some (.bool xf) := hX11.cell 9
                        clear hX11
                        cases lt
                        · go_wp2_with (at_builtin; refine RowKind.Own.push (R := RSl) (y := ⟨⟨x0, x1, x2, x3, x4⟩, p0, n0, c0, p1, n1, c1, p2, n2, c2, md, xf⟩) HR11.out HB11.out HB11.out.size rfl _ _ rfl rfl _ rfl HLn.out (Nat.le_refl _) ?_; intro v12 w12 hO12 hB12 hz12)
                          have HO12 := Lib.hid hO12
                          have HB12 := Lib.hid hB12
                          clear hO12 hB12
                          go_roundg (c.length - (k + 1))
                          case measure => omega
                          case rel => exact ⟨k + 1, pre ++ [mk], ys ++ [⟨⟨x0, x1, x2, x3, x4⟩, p0, n0, c0, p1, n1, c1, p2, n2, c2, md, xf⟩], false, by omega, by omega, by rw [HL2.out], rfl, by go_num, HB12.out, ⟨HO12.out, areSl_snoc HR8.out.2 HMd.out⟩, HOld.out HNe2.out (by rintro ⟨_, q⟩; cases q)⟩
  
                        · have hN11 := HN11.out
                          have g0 : w11.cell? ⟨bo, 0, none⟩ = some (.int .i64 a0) := rowOf_cell hN11 0
                          have g1 : w11.cell? ⟨bo, 1, none⟩ = some (.int .i64 a1) := rowOf_cell hN11 1
                          have g2 : w11.cell? ⟨bo, 2, none⟩ = some (.int .i64 a2) := rowOf_cell hN11 2
                          have g3 : w11.cell? ⟨bo, 3, none⟩ = some (.int .i64 a3) := rowOf_cell hN11 3
                          have g4 : w11.cell? ⟨bo, 4, none⟩ = some (.int .i64 a4) := rowOf_cell hN11 4
                          have g5 : w11.cell? ⟨bo, 5, none⟩ = some (.slice u0 m0 k0) := rowOf_cell hN11 5
                          have g6 : w11.cell? ⟨bo, 6, none⟩ = some (.slice u1 m1 k1) := rowOf_cell hN11 6
                          have g7 : w11.cell? ⟨bo, 7, none⟩ = some (.slice u2 m2 k2) := rowOf_cell hN11 7
                          have g8 : w11.cell? ⟨bo, 8, none⟩ = some (.bool yd) := rowOf_cell hN11 8
                          have g9 : w11.cell? ⟨bo, 9, none⟩ = some (.bool yf) := rowOf_cell hN11 9
                          clear hN11
                          have HLn2 : Hid ((ys ++ [(⟨⟨a0, a1, a2, a3, a4⟩, u0, m0, k0, u1, m1, k1, u2, m2, k2, yd, yf⟩ : SW)]).length ≤ 900000) := by have h1 := HYl.out; have h2 := HPl.out; rw [Hid, List.length_append, List.length_singleton]; omega
                          go_wp2_with (first
                            | (at_builtin; refine RowKind.Own.push (R := RSl) (y := ⟨⟨x0, x1, x2, x3, x4⟩, p0, n0, c0, p1, n1, c1, p2, n2, c2, md, xf⟩) HO12.out HB12.out HB12.out.size rfl _ _ rfl rfl _ rfl HLn2.out (Nat.le_refl _) ?_; intro v13 w13 hO13 hB13 hz13; have HO13 := Lib.hid hO13; have HB13 := Lib.hid hB13)
                            | (at_builtin; refine RowKind.Own.pushN (R := RSl) (y := ⟨⟨a0, a1, a2, a3, a4⟩, u0, m0, k0, u1, m1, k1, u2, m2, k2, yd, yf⟩) HR11.out HB11.out HB11.out.size HX11.out HNe.out rfl _ _ rfl rfl _ rfl HLn.out ?_; intro v12 w12 hO12 hB12 hz12 hX12; have HO12 := Lib.hid hO12; have HB12 := Lib.hid hB12; have y0 : w12.cell? ⟨sb, 0, none⟩ = some (.int .i64 x0) := hX12.cell 0; have y1 : w12.cell? ⟨sb, 1, none⟩ = some (.int .i64 x1) := hX12.cell 1; have y2 : w12.cell? ⟨sb, 2, none⟩ = some (.int .i64 x2) := hX12.cell 2; have y3 : w12.cell? ⟨sb, 3, none⟩ = some (.int .i64 x3) := hX12.cell 3; have y4 : w12.cell? ⟨sb, 4, none⟩ = some (.int .i64 x4) := hX12.cell 4; have y5 : w12.cell? ⟨sb, 5, none⟩ = some (.slice p0 n0 c0) := hX12.cell 5; have y6 : w12.cell? ⟨sb, 6, none⟩ = some (.slice p1 n1 c1) := hX12.cell 6; have y7 : w12.cell? ⟨sb, 7, none⟩ = some (.slice p2 n2 c2) := hX12.cell 7; have y8 : w12.cell? ⟨sb, 8, none⟩ = some (.bool md) := hX12.cell 8; have y9 : w12.cell? ⟨sb, 9, none⟩ = some (.bool xf) := hX12.cell 9; clear hO12 hB12 hX12))
                          go_roundg (c.length - (k + 1))
                          case measure => omega
                          case rel => exact ⟨k + 1, pre ++ [own] ++ [mk], ys ++ [⟨⟨a0, a1, a2, a3, a4⟩, u0, m0, k0, u1, m1, k1, u2, m2, k2, yd, yf⟩] ++ [⟨⟨x0, x1, x2, x3, x4⟩, p0, n0, c0, p1, n1, c1, p2, n2, c2, md, xf⟩], true, by omega, by omega, by rw [HL2.out], rfl, by go_num, HB13.out, ⟨HO13.out, areSl_snoc (areSl_snoc HR8.out.2 HI6.out) HMd.out⟩, HNew.out (by trivial) HNe2.out (by trivial)⟩
                      · go_wp2_with (at_builtin; refine RowKind.Own.push (R := RSl) (y := ⟨⟨x0, x1, x2, x3, x4⟩, p0, n0, c0, p1, n1, c1, p2, n2, c2, md, xf⟩) HR10.out HB10.out HB10.out.size rfl _ _ rfl rfl _ rfl HLn.out (Nat.le_refl _) ?_; intro v12 w12 hO12 hB12 hz12)
                        have HO12 := Lib.hid hO12
                        have HB12 := Lib.hid hB12
                        clear hO12 hB12
                        go_roundg (c.length - (k + 1))
                        case measure => omega
                        case rel => exact ⟨k + 1, pre ++ [mk], ys ++ [⟨⟨x0, x1, x2, x3, x4⟩, p0, n0, c0, p1, n1, c1, p2, n2, c2, md, xf⟩], true, by omega, by omega, by rw [HL2.out], rfl, by go_num, HB12.out, ⟨HO12.out, areSl_snoc HR8.out.2 HMd.out⟩, HOld.out HNe2.out (by rintro ⟨q, _⟩; cases q)⟩
  
                  · rw [heq] at HEq
                    have hee : (⟨x0, x1, x2, x3, x4⟩ : TV) = ⟨td, t0, t1, t2, t3⟩ := of_decide_eq_true HEq.symm
                    have HLx2 : Hid (lx = false) := by rw [Hid, HLx.out, decide_eq_false (fun h => h hee)]; rfl
                    have HSm2 := Lib.hid (HSame.out hee)
                    rw [HLx2.out, Bool.or_false] at HLk
                    clear HSame HEq hee HLx HLx2 HOld HNew HLe0 HLs0
                    go_wp2
                    go_roundg (c.length - (k + 1))
                    case measure => omega
                    case rel => exact ⟨k + 1, pre, ys, d, by omega, by omega, by rw [HLk.out], rfl, by go_num, HB8.out, HR8.out, HSm2.out⟩
                · obtain rfl : k = c.length := by omega
                  have hlz : ¬ (c.length : Int) < (c.length : Int) := by omega
                  have HLd : Hid (lateK c kind ⟨td, t0, t1, t2, t3⟩ c.length = lateL kind ⟨td, t0, t1, t2, t3⟩ c) := lateK_done HGd.out kind _
                  have HCm : Hid (comeS c kind 0 ⟨td, t0, t1, t2, t3⟩ ⟨rk, rv⟩ n = outS kind own c own.empty) := by rw [Hid, ← HOwn.out]; rfl
                  cases d
                  · have hN7 := rowOf_below HN6.out HB7.out (rowOf_lt HN6.out)
                    have b0 : wr.cell? ⟨bo, 0, none⟩ = some (.int .i64 a0) := rowOf_cell hN7 0
                    have b1 : wr.cell? ⟨bo, 1, none⟩ = some (.int .i64 a1) := rowOf_cell hN7 1
                    have b2 : wr.cell? ⟨bo, 2, none⟩ = some (.int .i64 a2) := rowOf_cell hN7 2
                    have b3 : wr.cell? ⟨bo, 3, none⟩ = some (.int .i64 a3) := rowOf_cell hN7 3
                    have b4 : wr.cell? ⟨bo, 4, none⟩ = some (.int .i64 a4) := rowOf_cell hN7 4
                    have b5 : wr.cell? ⟨bo, 5, none⟩ = some (.slice u0 m0 k0) := rowOf_cell hN7 5
                    have b6 : wr.cell? ⟨bo, 6, none⟩ = some (.slice u1 m1 k1) := rowOf_cell hN7 6
                    have b7 : wr.cell? ⟨bo, 7, none⟩ = some (.slice u2 m2 k2) := rowOf_cell hN7 7
                    have b8 : wr.cell? ⟨bo, 8, none⟩ = some (.bool yd) := rowOf_cell hN7 8
                    have b9 : wr.cell? ⟨bo, 9, none⟩ = some (.bool yf) := rowOf_cell hN7 9
                    have HLn : Hid (ys.length ≤ 900000) := by have h1 := HR7.out.2.1; have h2 := HO7.out.len; rw [Hid]; omega
                    clear hN7
                    go_wp2_with (at_builtin; refine RowKind.Own.push (R := RSl) (y := ⟨⟨a0, a1, a2, a3, a4⟩, u0, m0, k0, u1, m1, k1, u2, m2, k2, yd, yf⟩) HR7.out.1 HB7.out HB7.out.size rfl _ _ rfl rfl _ rfl HLn.out (Nat.le_refl _) ?_; intro v12 w12 hO12 hB12 hz12; have HX := Lib.hid (HY.out w12 v12 _ _ HLd.out (HO7.out.end_no.trans HCm.out.symm) ⟨_, hO12.is, (areSl_snoc HR7.out.2 HI6.out).below hB12⟩ (ownCapC hO12) (HW6.out _ hB12)); clear hO12 hB12 HY)
                    first | exact HX.out | (go_returns; exact HX.out)
                  · have HX := Lib.hid (HY.out wr u21 _ _ HLd.out (HO7.out.end_yes.trans HCm.out.symm) (HR7.out.is HB7.out).1 (HR7.out.is HB7.out).2 (HW6.out _ HB7.out))
                    clear HY
                    go_wp2
                    first | exact HX.out | (go_returns; exact HX.out)
end
end Go.Proofs.YthhceggcdaljdaaGreat
