/- the program's Come -/
import Derived.Test.YthhceggcdaljdaaGreatG14
import Derived.Test.YthhceggcdaljdaaGreatG16
import Derived.Deep.RegionHeldLaw
import Derived.Test.YthhceggcdaljdaaGreatG12
import Derived.Deep.CutRange
import Derived.Test.YthhceggcdaljdaaGreatG01
import Derived.Sort.Grow
namespace Go.Proofs.YthhceggcdaljdaaGreat
open Go.RowKit
set_option linter.unusedVariables false
set_option linter.unusedSimpArgs false

theorem begun_split {c : List SV} (hc : GoodSl c) {t : TV} (ht : t.ok = true) {k : Nat} (h : AtK c t k) : ∃ A o B hit, Around c t k A o B hit ∧ begunS c t k = A ++ o :: B := by
  have q := around_of hc ht h
  by_cases e : k < c.length ∧ (c[k]!).t = t
  · exact ⟨_, _, _, _, q.1 e, by unfold begunS; rw [if_pos e]; exact (q.1 e).yes rfl⟩
  · exact ⟨_, _, _, _, q.2 e, by unfold begunS; rw [if_neg e]⟩
theorem mid_get {A B : List SV} {o : SV} {k : Nat} (h : A.length = k) : (A ++ o :: B)[k]! = o := by
  rw [getElem!_pos (A ++ o :: B) k (by simp; omega), List.getElem_append_right (by omega)]
  simp [h]
theorem mid_set {A B : List SV} {o x : SV} {k : Nat} (h : A.length = k) : (A ++ o :: B).set k x = A ++ x :: B := by
  subst h
  rw [List.set_append_right _ _ (Nat.le_refl _), Nat.sub_self]
  rfl
def ComeR (c : List SV) (kind port : Int) (t : TV) (r : RV) (n : Int) (w : World) (e : Ending) (w' : World) : Prop := ∃ u, e = .returned (.tuple #[u, .bool (lateS c kind port t n), .bool (comeOk c port t n)]) ∧ IsCl w' u (comeF c kind port t r n) ∧ capOk u ∧ Below w.heap.size w w'
theorem lateS_is (c : List SV) (kind port : Int) (t : TV) (n : Int) : lateS c kind port t n = (comeOk c port t n && lateL kind t c) := rfl
theorem come_no {c : List SV} {kind port : Int} {t : TV} {r : RV} {n : Int} {w w' : World} {u : Value} (h : comeOk c port t n = false) (hi : IsCl w' u c) (hc : capOk u) (hb : Below w.heap.size w w') : ComeR c kind port t r n w (.returned (.tuple #[u, .bool false, .bool false])) w' :=
  ⟨u, by rw [lateS_is, h]; rfl, by unfold comeF; rw [if_neg (by rw [h]; decide)]; exact hi, hc, hb⟩
theorem come_yes {c : List SV} {kind port : Int} {t : TV} {r : RV} {n : Int} {w w' : World} {u : Value} {l : Bool} {d : List SV} (h : comeOk c port t n = true) (hl : l = lateL kind t c) (hd : d = comeS c kind port t r n) (hi : IsCl w' u d) (hc : capOk u) (hb : Below w.heap.size w w') : ComeR c kind port t r n w (.returned (.tuple #[u, .bool l, .bool true])) w' :=
  ⟨u, by rw [lateS_is, h, hl]; rfl, by unfold comeF; rw [if_pos h, ← hd]; exact hi, hc, hb⟩
/-- what comes of begun, the record and soil -/
theorem come_steps {c : List SV} (hc : GoodSl c) {t : TV} (ht : t.ok = true) {k : Nat} (h : AtK c t k) (kind port : Int) (r : RV) (n : Int) :
    ∃ o, k < (begunS c t k).length ∧ (begunS c t k)[k]! = o ∧ o = xS c t ∧ lateL kind t ((begunS c t k).set k (addS o port r n)) = lateL kind t c ∧
    (if (((((begunS c t k).set k (addS o port r n)).map (soilS kind t))[k]!).empty = true) then (((begunS c t k).set k (addS o port r n)).map (soilS kind t)).eraseIdx k else ((begunS c t k).set k (addS o port r n)).map (soilS kind t)) = comeS c kind port t r n := by
  obtain ⟨A, o, B, hit, ha, e⟩ := begun_split hc ht h
  refine ⟨o, by rw [e]; simp; have := ha.len; omega, by rw [e]; exact mid_get ha.len, ha.look.symm, ?_, ?_⟩
  · rw [e, mid_set ha.len]
    exact late_is ha kind port r n
  · rw [e, mid_set ha.len, soiled ha.own, mid_get (by rw [List.length_map]; exact ha.len), comeA_is ha, comeA_gone, ha.len]
theorem begunS_len (c : List SV) (t : TV) (k : Nat) : (begunS c t k).length ≤ c.length + 1 := by
  unfold begunS
  split
  · omega
  · simp; omega
/-- a slot with another bag of its -/
theorem isSl_add {w : World} {x : SW} {o : SV} (h : isSl w x o) (port : Int) (hp : port = 0 ∨ port = 1) (r : RV) (n : Int) {p : Option Addr} {m cc : Nat} {l : List IV} (hl : l = if port = 0 then addI o.a r n else addI o.b r n) (hm : m = l.length) (hk : m ≤ cc) (hi : RI.Is w (.slice p m cc) l) :
    isSl w (if port = 0 then ⟨x.t, p, m, cc, x.p1, x.n1, x.c1, x.p2, x.n2, x.c2, x.d, x.f⟩ else ⟨x.t, x.p0, x.n0, x.c0, p, m, cc, x.p2, x.n2, x.c2, x.d, x.f⟩) (addS o port r n) := by
  subst hm
  unfold addS
  by_cases e : port = 0
  · rw [if_pos e] at *
    subst hl
    rw [if_pos e]
    exact ⟨h.t, h.d, h.f, rfl, hk, hi, h.n1, h.k1, h.l1, h.n2, h.k2, h.l2⟩
  · rw [if_neg e] at *
    subst hl
    rw [if_neg e]
    exact ⟨h.t, h.d, h.f, h.n0, h.k0, h.l0, rfl, hk, hi, h.n2, h.k2, h.l2⟩
set_option maxRecDepth 100000 in
set_option maxHeartbeats 16000000 in
theorem pcome_bad0 (c : List SV) (v : Value) (kind port : Int) (t : TV) (r : RV) (n : Int) (w : World) (hs : SmallC 100000 c) (h : IsCl w v c) (q0 : port < 0) : Calls Tryz.prog 10 #[v, .int .i64 kind, .int .i64 port, TV.val t, RV.val r, .int .i64 n] w (ComeR c kind port t r n w) := by
  have hok : comeOk c port t n = false := by
    cases e : comeOk c port t n
    · rfl
    · have := (comeOk_iff c port t n).1 e
      omega
  have d0 : decide (port < 0) = true := decide_eq_true q0
  clear q0
  have HOk := Lib.hid hok
  clear hok
  generalize hR : ComeR c kind port t r n w = R at *
  have HNo : Hid (∀ w' u, IsCl w' u c → capOk u → Below w.heap.size w w' → R (.returned (.tuple #[u, .bool false, .bool false])) w') := fun w' u h1 h2 h3 => hR ▸ come_no HOk.out h1 h2 h3
  clear hR
  have HC := Lib.hid h
  obtain ⟨xs, hx0, hx1⟩ := h
  obtain ⟨pv, kv, rfl⟩ := hx0.slice
  obtain ⟨td, t0, t1, t2, t3⟩ := t
  obtain ⟨rk, rv⟩ := r
  have hb0 := ((Below.refl w.heap.size w).alloc (Nat.le_refl _) (.cells #[.int .i64 td, .int .i64 t0, .int .i64 t1, .int .i64 t2, .int .i64 t3] 25)).alloc (by simp) (.cells #[.int .i64 rk, .int .i64 rv] 27)
  have hbt := (BT5.new w ⟨td, t0, t1, t2, t3⟩).more (.cells #[.int .i64 rk, .int .i64 rv] 27)
  have hbr := BR2.new (w.alloc (.cells #[.int .i64 td, .int .i64 t0, .int .i64 t1, .int .i64 t2, .int .i64 t3] 25)) ⟨rk, rv⟩
  rw [World.size_alloc] at hbr
  dsimp only at hbt hbr
  go_enter Tryz.func10, Tryz.ntmps10
  go_upto_region 1 with (fail)
  generalize (w.alloc (.cells #[.int .i64 td, .int .i64 t0, .int .i64 t1, .int .i64 t2, .int .i64 t3] 25)).alloc (.cells #[.int .i64 rk, .int .i64 rv] 27) = w0 at *
  have HB0 := Lib.hid hb0
  have hA0 := hx1.below hb0
  have HCl := Lib.hid (pcloneC_any xs _ w0 (by have := hs.1; have := hx1.1; omega) (hx0.below hb0))
  have HBt := Lib.hid hbt
  have HBr := Lib.hid hbr
  clear hb0 hbt hbr
  go_wp2_with fail
  refine (HCl.out).mono ?_
  rintro e w1 ⟨v1, rfl, hO1, hb1⟩
  have HX := Lib.hid (HNo.out w1 v1 ⟨xs, hO1.is, hA0.below hb1⟩ (ownCapC hO1) (HB0.out.trans (hb1.mono HB0.out.size)))
  clear hO1 hb1 HNo
  go_wp2
  exact HX.out
set_option maxRecDepth 100000 in
set_option maxHeartbeats 16000000 in
theorem pcome_bad1 (c : List SV) (v : Value) (kind port : Int) (t : TV) (r : RV) (n : Int) (w : World) (hs : SmallC 100000 c) (h : IsCl w v c) (q0 : ¬ port < 0) (q1 : 1 < port) : Calls Tryz.prog 10 #[v, .int .i64 kind, .int .i64 port, TV.val t, RV.val r, .int .i64 n] w (ComeR c kind port t r n w) := by
  have hok : comeOk c port t n = false := by
    cases e : comeOk c port t n
    · rfl
    · have := (comeOk_iff c port t n).1 e
      omega
  have d0 : decide (port < 0) = false := decide_eq_false q0
  have d1 : decide (1 < port) = true := decide_eq_true q1
  clear q0 q1
  have HOk := Lib.hid hok
  clear hok
  generalize hR : ComeR c kind port t r n w = R at *
  have HNo : Hid (∀ w' u, IsCl w' u c → capOk u → Below w.heap.size w w' → R (.returned (.tuple #[u, .bool false, .bool false])) w') := fun w' u h1 h2 h3 => hR ▸ come_no HOk.out h1 h2 h3
  clear hR
  have HC := Lib.hid h
  obtain ⟨xs, hx0, hx1⟩ := h
  obtain ⟨pv, kv, rfl⟩ := hx0.slice
  obtain ⟨td, t0, t1, t2, t3⟩ := t
  obtain ⟨rk, rv⟩ := r
  have hb0 := ((Below.refl w.heap.size w).alloc (Nat.le_refl _) (.cells #[.int .i64 td, .int .i64 t0, .int .i64 t1, .int .i64 t2, .int .i64 t3] 25)).alloc (by simp) (.cells #[.int .i64 rk, .int .i64 rv] 27)
  have hbt := (BT5.new w ⟨td, t0, t1, t2, t3⟩).more (.cells #[.int .i64 rk, .int .i64 rv] 27)
  have hbr := BR2.new (w.alloc (.cells #[.int .i64 td, .int .i64 t0, .int .i64 t1, .int .i64 t2, .int .i64 t3] 25)) ⟨rk, rv⟩
  rw [World.size_alloc] at hbr
  dsimp only at hbt hbr
  go_enter Tryz.func10, Tryz.ntmps10
  go_upto_region 1 with (fail)
  generalize (w.alloc (.cells #[.int .i64 td, .int .i64 t0, .int .i64 t1, .int .i64 t2, .int .i64 t3] 25)).alloc (.cells #[.int .i64 rk, .int .i64 rv] 27) = w0 at *
  have HB0 := Lib.hid hb0
  have hA0 := hx1.below hb0
  have HCl := Lib.hid (pcloneC_any xs _ w0 (by have := hs.1; have := hx1.1; omega) (hx0.below hb0))
  have HBt := Lib.hid hbt
  have HBr := Lib.hid hbr
  clear hb0 hbt hbr
  go_wp2_with fail
  refine (HCl.out).mono ?_
  rintro e w1 ⟨v1, rfl, hO1, hb1⟩
  have HX := Lib.hid (HNo.out w1 v1 ⟨xs, hO1.is, hA0.below hb1⟩ (ownCapC hO1) (HB0.out.trans (hb1.mono HB0.out.size)))
  clear hO1 hb1 HNo
  go_wp2
  exact HX.out
set_option maxRecDepth 100000 in
set_option maxHeartbeats 16000000 in
theorem pcome_bad2 (c : List SV) (v : Value) (kind port : Int) (t : TV) (r : RV) (n : Int) (w : World) (hs : SmallC 100000 c) (h : IsCl w v c) (q0 : ¬ port < 0) (q1 : ¬ 1 < port) (q2 : n = 0) : Calls Tryz.prog 10 #[v, .int .i64 kind, .int .i64 port, TV.val t, RV.val r, .int .i64 n] w (ComeR c kind port t r n w) := by
  have hok : comeOk c port t n = false := by
    cases e : comeOk c port t n
    · rfl
    · have := (comeOk_iff c port t n).1 e
      omega
  have d0 : decide (port < 0) = false := decide_eq_false q0
  have d1 : decide (1 < port) = false := decide_eq_false q1
  have d2 : (n == 0) = true := by simp; exact q2
  clear q0 q1 q2
  have HOk := Lib.hid hok
  clear hok
  generalize hR : ComeR c kind port t r n w = R at *
  have HNo : Hid (∀ w' u, IsCl w' u c → capOk u → Below w.heap.size w w' → R (.returned (.tuple #[u, .bool false, .bool false])) w') := fun w' u h1 h2 h3 => hR ▸ come_no HOk.out h1 h2 h3
  clear hR
  have HC := Lib.hid h
  obtain ⟨xs, hx0, hx1⟩ := h
  obtain ⟨pv, kv, rfl⟩ := hx0.slice
  obtain ⟨td, t0, t1, t2, t3⟩ := t
  obtain ⟨rk, rv⟩ := r
  have hb0 := ((Below.refl w.heap.size w).alloc (Nat.le_refl _) (.cells #[.int .i64 td, .int .i64 t0, .int .i64 t1, .int .i64 t2, .int .i64 t3] 25)).alloc (by simp) (.cells #[.int .i64 rk, .int .i64 rv] 27)
  have hbt := (BT5.new w ⟨td, t0, t1, t2, t3⟩).more (.cells #[.int .i64 rk, .int .i64 rv] 27)
  have hbr := BR2.new (w.alloc (.cells #[.int .i64 td, .int .i64 t0, .int .i64 t1, .int .i64 t2, .int .i64 t3] 25)) ⟨rk, rv⟩
  rw [World.size_alloc] at hbr
  dsimp only at hbt hbr
  go_enter Tryz.func10, Tryz.ntmps10
  go_upto_region 1 with (fail)
  generalize (w.alloc (.cells #[.int .i64 td, .int .i64 t0, .int .i64 t1, .int .i64 t2, .int .i64 t3] 25)).alloc (.cells #[.int .i64 rk, .int .i64 rv] 27) = w0 at *
  have HB0 := Lib.hid hb0
  have hA0 := hx1.below hb0
  have HCl := Lib.hid (pcloneC_any xs _ w0 (by have := hs.1; have := hx1.1; omega) (hx0.below hb0))
  have HBt := Lib.hid hbt
  have HBr := Lib.hid hbr
  clear hb0 hbt hbr
  go_wp2_with fail
  refine (HCl.out).mono ?_
  rintro e w1 ⟨v1, rfl, hO1, hb1⟩
  have HX := Lib.hid (HNo.out w1 v1 ⟨xs, hO1.is, hA0.below hb1⟩ (ownCapC hO1) (HB0.out.trans (hb1.mono HB0.out.size)))
  clear hO1 hb1 HNo
  go_wp2
  exact HX.out
set_option maxRecDepth 100000 in
set_option maxHeartbeats 16000000 in
theorem pcome_bad3 (c : List SV) (v : Value) (kind port : Int) (t : TV) (r : RV) (n : Int) (w : World) (hs : SmallC 100000 c) (h : IsCl w v c) (q0 : ¬ port < 0) (q1 : ¬ 1 < port) (q2 : ¬ n = 0) (q3 : n < -2147483648) : Calls Tryz.prog 10 #[v, .int .i64 kind, .int .i64 port, TV.val t, RV.val r, .int .i64 n] w (ComeR c kind port t r n w) := by
  have hok : comeOk c port t n = false := by
    cases e : comeOk c port t n
    · rfl
    · have := (comeOk_iff c port t n).1 e
      omega
  have d0 : decide (port < 0) = false := decide_eq_false q0
  have d1 : decide (1 < port) = false := decide_eq_false q1
  have d2 : (n == 0) = false := by simp; exact q2
  have d3 : decide (n < -2147483648) = true := decide_eq_true q3
  clear q0 q1 q2 q3
  have HOk := Lib.hid hok
  clear hok
  generalize hR : ComeR c kind port t r n w = R at *
  have HNo : Hid (∀ w' u, IsCl w' u c → capOk u → Below w.heap.size w w' → R (.returned (.tuple #[u, .bool false, .bool false])) w') := fun w' u h1 h2 h3 => hR ▸ come_no HOk.out h1 h2 h3
  clear hR
  have HC := Lib.hid h
  obtain ⟨xs, hx0, hx1⟩ := h
  obtain ⟨pv, kv, rfl⟩ := hx0.slice
  obtain ⟨td, t0, t1, t2, t3⟩ := t
  obtain ⟨rk, rv⟩ := r
  have hb0 := ((Below.refl w.heap.size w).alloc (Nat.le_refl _) (.cells #[.int .i64 td, .int .i64 t0, .int .i64 t1, .int .i64 t2, .int .i64 t3] 25)).alloc (by simp) (.cells #[.int .i64 rk, .int .i64 rv] 27)
  have hbt := (BT5.new w ⟨td, t0, t1, t2, t3⟩).more (.cells #[.int .i64 rk, .int .i64 rv] 27)
  have hbr := BR2.new (w.alloc (.cells #[.int .i64 td, .int .i64 t0, .int .i64 t1, .int .i64 t2, .int .i64 t3] 25)) ⟨rk, rv⟩
  rw [World.size_alloc] at hbr
  dsimp only at hbt hbr
  go_enter Tryz.func10, Tryz.ntmps10
  go_upto_region 1 with (fail)
  generalize (w.alloc (.cells #[.int .i64 td, .int .i64 t0, .int .i64 t1, .int .i64 t2, .int .i64 t3] 25)).alloc (.cells #[.int .i64 rk, .int .i64 rv] 27) = w0 at *
  have HB0 := Lib.hid hb0
  have hA0 := hx1.below hb0
  have HCl := Lib.hid (pcloneC_any xs _ w0 (by have := hs.1; have := hx1.1; omega) (hx0.below hb0))
  have HBt := Lib.hid hbt
  have HBr := Lib.hid hbr
  clear hb0 hbt hbr
  go_wp2_with fail
  refine (HCl.out).mono ?_
  rintro e w1 ⟨v1, rfl, hO1, hb1⟩
  have HX := Lib.hid (HNo.out w1 v1 ⟨xs, hO1.is, hA0.below hb1⟩ (ownCapC hO1) (HB0.out.trans (hb1.mono HB0.out.size)))
  clear hO1 hb1 HNo
  go_wp2
  exact HX.out
set_option maxRecDepth 100000 in
set_option maxHeartbeats 16000000 in
theorem pcome_bad4 (c : List SV) (v : Value) (kind port : Int) (t : TV) (r : RV) (n : Int) (w : World) (hs : SmallC 100000 c) (h : IsCl w v c) (q0 : ¬ port < 0) (q1 : ¬ 1 < port) (q2 : ¬ n = 0) (q3 : ¬ n < -2147483648) (q4 : 2147483648 < n) : Calls Tryz.prog 10 #[v, .int .i64 kind, .int .i64 port, TV.val t, RV.val r, .int .i64 n] w (ComeR c kind port t r n w) := by
  have hok : comeOk c port t n = false := by
    cases e : comeOk c port t n
    · rfl
    · have := (comeOk_iff c port t n).1 e
      omega
  have d0 : decide (port < 0) = false := decide_eq_false q0
  have d1 : decide (1 < port) = false := decide_eq_false q1
  have d2 : (n == 0) = false := by simp; exact q2
  have d3 : decide (n < -2147483648) = false := decide_eq_false q3
  have d4 : decide (2147483648 < n) = true := decide_eq_true q4
  clear q0 q1 q2 q3 q4
  have HOk := Lib.hid hok
  clear hok
  generalize hR : ComeR c kind port t r n w = R at *
  have HNo : Hid (∀ w' u, IsCl w' u c → capOk u → Below w.heap.size w w' → R (.returned (.tuple #[u, .bool false, .bool false])) w') := fun w' u h1 h2 h3 => hR ▸ come_no HOk.out h1 h2 h3
  clear hR
  have HC := Lib.hid h
  obtain ⟨xs, hx0, hx1⟩ := h
  obtain ⟨pv, kv, rfl⟩ := hx0.slice
  obtain ⟨td, t0, t1, t2, t3⟩ := t
  obtain ⟨rk, rv⟩ := r
  have hb0 := ((Below.refl w.heap.size w).alloc (Nat.le_refl _) (.cells #[.int .i64 td, .int .i64 t0, .int .i64 t1, .int .i64 t2, .int .i64 t3] 25)).alloc (by simp) (.cells #[.int .i64 rk, .int .i64 rv] 27)
  have hbt := (BT5.new w ⟨td, t0, t1, t2, t3⟩).more (.cells #[.int .i64 rk, .int .i64 rv] 27)
  have hbr := BR2.new (w.alloc (.cells #[.int .i64 td, .int .i64 t0, .int .i64 t1, .int .i64 t2, .int .i64 t3] 25)) ⟨rk, rv⟩
  rw [World.size_alloc] at hbr
  dsimp only at hbt hbr
  go_enter Tryz.func10, Tryz.ntmps10
  go_upto_region 1 with (fail)
  generalize (w.alloc (.cells #[.int .i64 td, .int .i64 t0, .int .i64 t1, .int .i64 t2, .int .i64 t3] 25)).alloc (.cells #[.int .i64 rk, .int .i64 rv] 27) = w0 at *
  have HB0 := Lib.hid hb0
  have hA0 := hx1.below hb0
  have HCl := Lib.hid (pcloneC_any xs _ w0 (by have := hs.1; have := hx1.1; omega) (hx0.below hb0))
  have HBt := Lib.hid hbt
  have HBr := Lib.hid hbr
  clear hb0 hbt hbr
  go_wp2_with fail
  refine (HCl.out).mono ?_
  rintro e w1 ⟨v1, rfl, hO1, hb1⟩
  have HX := Lib.hid (HNo.out w1 v1 ⟨xs, hO1.is, hA0.below hb1⟩ (ownCapC hO1) (HB0.out.trans (hb1.mono HB0.out.size)))
  clear hO1 hb1 HNo
  go_wp2
  exact HX.out
end Go.Proofs.YthhceggcdaljdaaGreat
/- the program's: the place of a timestamp's slot -/
namespace Go.Proofs.YthhceggcdaljdaaGreat
open Go.RowKit
set_option linter.unusedVariables false
set_option linter.unusedSimpArgs false

attribute [local go_sem ↓] eqTime neTime
set_option maxRecDepth 100000 in
set_option maxHeartbeats 4000000 in
theorem pfind1_any (x : SW) (t : TV) (B : Nat) (w : World) (hB : BT5 w B t) : Calls Tryz.prog 95 #[SW.val x, .pointer (some ⟨B, 0, none⟩)] w (Ret (.bool (eqT x.t t)) w) := by
  obtain ⟨⟨td, t0, t1, t2, t3⟩, p0, n0, c0, p1, n1, c1, p2, n2, c2, xd, xf⟩ := x
  obtain ⟨y0, y1, y2, y3, y4⟩ := t
  obtain ⟨z0, z1, z2, z3, z4, zl⟩ := hB
  dsimp only at z0 z1 z2 z3 z4 ⊢
  have HB := Lib.hid ((Below.refl w.heap.size w).alloc (Nat.le_refl _) (.cells #[.int .i64 td, .int .i64 t0, .int .i64 t1, .int .i64 t2, .int .i64 t3, .slice p0 n0 c0, .slice p1 n1 c1, .slice p2 n2 c2, .bool xd, .bool xf] 40))
  have hne : B ≠ w.heap.size := Nat.ne_of_lt zl
  go_enter Tryz.func95, Tryz.ntmps95
  go_wp2
  go_returns
  exact ⟨rfl, HB.out⟩
def FindR (c : List SV) (t : TV) (w : World) (e : Ending) (w' : World) : Prop := ∃ r : Int, e = .returned (.int .i64 r) ∧ ((r = -1 ∧ lookS c t = none) ∨ ∃ k : Nat, k < c.length ∧ r = (k : Int) ∧ (c[k]!).t = t ∧ lookS c t = some c[k]!) ∧ Below w.heap.size w w'
theorem look_at {c : List SV} {t : TV} {k : Nat} (hk : k < c.length) (h : (c[k]!).t = t) (hn : ∀ j, j < k → (c[j]!).t ≠ t) : lookS c t = some c[k]! := by
  induction c generalizing k with
  | nil => cases hk
  | cons x c ih =>
    rw [lookS_cons]
    cases k with
    | zero =>
      have h : x.t = t := h
      rw [if_pos h]
      rfl
    | succ k =>
      have h0 := hn 0 (by omega)
      rw [if_neg (show ¬ x.t = t from h0)]
      exact ih (k := k) (by simpa using hk) h fun j hj => hn (j + 1) (by omega)
theorem look_no {c : List SV} {t : TV} (hn : ∀ j, j < c.length → (c[j]!).t ≠ t) : lookS c t = none := lookS_none fun x hx => by
  obtain ⟨j, hj, rfl⟩ := List.mem_iff_getElem.1 hx
  have := hn j hj
  rwa [getElem!_pos c j hj] at this
set_option maxRecDepth 100000 in
set_option maxHeartbeats 8000000 in
theorem pindex_any (c : List SV) (v : Value) (t : TV) (B : Nat) (w : World) (hl : c.length ≤ 900000) (h : IsCl w v c) (hB : BT5 w B t) : Calls Tryz.prog 94 #[v, .func (.func 95) #[] #[.pointer (some ⟨B, 0, none⟩)]] w (FindR c t w) := by
  obtain ⟨xs, hx0, hx1⟩ := h
  have HAr := Lib.hid hx1
  obtain ⟨p, k0, rfl, ho⟩ := isOpenedD hx0
  have HO := Lib.hid ho
  have hxn : xs.length = c.length := hx1.1
  rw [hxn] at HO ⊢
  have HC := Lib.hid (fun W x (hW : Below w.heap.size w W) => pfind1_any x t B W (hB.below hW))
  have HNo : Hid (∀ W, (∀ j, j < c.length → (c[j]!).t ≠ t) → Below w.heap.size w W → FindR c t w (.returned (.int .i64 (-1))) W) := fun W h1 h2 => ⟨-1, rfl, .inl ⟨rfl, look_no h1⟩, h2⟩
  have HYe : Hid (∀ W k, k < c.length → (c[k]!).t = t → (∀ j, j < k → (c[j]!).t ≠ t) → Below w.heap.size w W → FindR c t w (.returned (.int .i64 ((k : Nat) : Int))) W) := fun W k h0 h1 h2 h3 => ⟨k, rfl, .inr ⟨k, h0, rfl, h1, look_at h0 h1 h2⟩, h3⟩
  generalize FindR c t w = R at *
  clear hx0 hx1 ho hxn hB
  go_enter Tryz.func94, Tryz.ntmps94
  go_wp2
  go_loopg [8] c.length (fun gg i wr => ∃ k : Nat, k ≤ c.length ∧ c.length - k ≤ gg ∧ i = .int .i64 (k : Int) ∧ Hid (Below w.heap.size w wr) ∧ Hid (∀ j, j < k → (c[j]!).t ≠ t))
  case atStart => exact ⟨0, Nat.zero_le _, by omega, rfl, Below.refl _ _, fun j hj => absurd hj (Nat.not_lt_zero j)⟩
  case round =>
    obtain ⟨k, hkn, hg, rfl, HB, HM⟩ := hrel
    by_cases hlt : k < c.length
    · have hlz : (k : Int) < (c.length : Int) := by omega
      obtain ⟨b, off, rfl, hb, hrow⟩ := HO.out k hlt
      have hxl : xs.length = c.length := HAr.out.1
      obtain ⟨e0, e1, e2, e3, e4, e5, e6, e7, e8, e9⟩ := atSl (hrow.below HB.out hb) k (by omega)
      have hxt := (HAr.out.2 k hlt).t
      have HK0 := HC.out wr xs[k]! HB.out
      rw [hxt, eqT_eq] at HK0
      have HY2 := Lib.hid (fun W h => HYe.out W k hlt h HM.out)
      have HN2 : Hid (¬ (c[k]!).t = t → ∀ j, j < k + 1 → (c[j]!).t ≠ t) := fun q j hj => by
        by_cases e : j = k
        · subst e; exact q
        · exact HM.out j (by omega)
      generalize hq : decide ((c[k]!).t = t) = q at *
      generalize xs[k]! = x at *
      obtain ⟨⟨td, t0, t1, t2, t3⟩, p0, n0, c0, p1, n1, c1, p2, n2, c2, xd, xf⟩ := x
      dsimp only at e0 e1 e2 e3 e4 e5 e6 e7 e8 e9 HK0
      have HK := Lib.hid HK0
      clear HK0 hrow hxl hxt HYe HM
      go_wp2_with fail
      refine (HK.out).mono ?_
      rintro e w2 ⟨rfl, hb2⟩
      have HB2 := Lib.hid (bcall HB.out hb2 HB.out.size)
      clear hb2 HK HB e0 e1 e2 e3 e4 e5 e6 e7 e8 e9
      cases q
      · have HM2 := Lib.hid (HN2.out (of_decide_eq_false hq))
        clear hq HN2 HY2
        go_wp2
        go_roundg (c.length - (k + 1))
        case measure => omega
        case rel => exact ⟨k + 1, by omega, by omega, by go_num, HB2.out, HM2.out⟩
      · have HX := Lib.hid (HY2.out w2 (of_decide_eq_true hq) HB2.out)
        clear hq HN2 HY2
        go_wp2
        exact HX.out
    · obtain rfl : k = c.length := by omega
      have hlz : ¬ (c.length : Int) < (c.length : Int) := by omega
      have HX := Lib.hid (HNo.out wr HM.out HB.out)
      go_wp2
      exact HX.out
set_option maxRecDepth 100000 in
set_option maxHeartbeats 8000000 in
theorem pfind_any (c : List SV) (v : Value) (t : TV) (w : World) (hl : c.length ≤ 900000) (h : IsCl w v c) : Calls Tryz.prog 61 #[v, TV.val t] w (FindR c t w) := by
  have hb0 := (Below.refl w.heap.size w).alloc (Nat.le_refl _) (.cells #[.int .i64 t.d, .int .i64 t.c0, .int .i64 t.c1, .int .i64 t.c2, .int .i64 t.c3] 25)
  have HI := Lib.hid (pindex_any c v t w.heap.size _ hl (h.below hb0) (BT5.new w t))
  have HF : Hid (∀ W W' e, Below w.heap.size w W → FindR c t W e W' → FindR c t w e W') := fun W W' e hW ⟨r, h1, h2, h3⟩ => ⟨r, h1, h2, hW.trans (h3.mono hW.size)⟩
  have HB := Lib.hid hb0
  obtain ⟨p, k, rfl⟩ := h.slice
  clear h hb0
  obtain ⟨td, t0, t1, t2, t3⟩ := t
  dsimp only at HI HB
  go_enter Tryz.func61, Tryz.ntmps61
  go_wp2_with fail
  refine (HI.out).mono ?_
  intro e w2 hh
  have hx := HF.out _ _ _ HB.out hh
  obtain ⟨r, rfl, h1, h2⟩ := hx
  have HX : Hid (FindR c ⟨td, t0, t1, t2, t3⟩ w (.returned (.int .i64 r)) w2) := ⟨r, rfl, h1, h2⟩
  clear HF HI h1 h2 hh
  generalize FindR c ⟨td, t0, t1, t2, t3⟩ w = R at *
  go_wp2
  exact HX.out
end Go.Proofs.YthhceggcdaljdaaGreat
/- the document's way of letting a record come, as plain facts -/
namespace Go.Proofs.YthhceggcdaljdaaGreat
open Go.RowKit
set_option linter.unusedVariables false
set_option linter.unusedSimpArgs false

theorem look_one {c : List SV} (hc : GoodSl c) {j : Nat} (hj : j < c.length) {t : TV} (ht : (c[j]!).t = t) : lookS c t = some c[j]! := look_at hj ht fun i hi e => by
  have q := List.pairwise_iff_getElem.1 hc.2 i j (by omega) hj hi
  rw [← getElem!_pos c i (by omega), ← getElem!_pos c j hj] at q
  exact lt_ne q (e.trans ht.symm)
/-- the slot that was found, going along -/
structure FoundK (c : List SV) (t : TV) (xs : List SW) (k : Nat) (x : SW) (o : SV) : Prop where
  yes : (∃ j, j < k ∧ j < c.length ∧ (c[j]!).t = t ∧ x = xs[j]! ∧ o = c[j]!) ∨ ((∀ j, j < k → (c[j]!).t ≠ t) ∧ x = freshW t ∧ o = freshS t)
theorem FoundK.next {c : List SV} {t : TV} {xs : List SW} {k : Nat} {x : SW} {o : SV} (h : FoundK c t xs k x o) (hn : (c[k]!).t ≠ t) : FoundK c t xs (k + 1) x o := by
  rcases h.yes with ⟨j, h1, h2⟩ | ⟨h1, h2⟩
  · exact ⟨.inl ⟨j, by omega, h2⟩⟩
  · refine ⟨.inr ⟨fun j hj => ?_, h2⟩⟩
    by_cases e : j = k
    · subst e; exact hn
    · exact h1 j (by omega)
theorem FoundK.done {c : List SV} {t : TV} {xs : List SW} {x : SW} {o : SV} (hc : GoodSl c) (h : FoundK c t xs c.length x o) : o = xS c t := by
  unfold xS
  rcases h.yes with ⟨j, h1, h2, h3, _, rfl⟩ | ⟨h1, _, rfl⟩
  · rw [look_one hc h2 h3]; rfl
  · rw [look_no h1]; rfl
theorem FoundK.is {c : List SV} {t : TV} {xs : List SW} {k : Nat} {x : SW} {o : SV} {w : World} (h : FoundK c t xs k x o) (ha : areSl w xs c) : isSl w x o := by
  rcases h.yes with ⟨j, h1, h2, h3, rfl, rfl⟩ | ⟨_, rfl, rfl⟩
  · exact ha.2 j h2
  · exact isSl_fresh w t
/-- what the document holds while it goes along -/
structure OutK (kind : Int) (own : SV) (c : List SV) (d0 : Bool) (k : Nat) (pre : List SV) (d : Bool) : Prop where
  eq : pre ++ outS kind own (c.drop k) d = outS kind own c d0
  len : pre.length ≤ k + 1
  lend : d = false → pre.length ≤ k
theorem OutK.start (kind : Int) (own : SV) (c : List SV) (d : Bool) : OutK kind own c d 0 [] d := ⟨rfl, Nat.zero_le _, fun _ => Nat.le_refl _⟩
theorem drop_consS {c : List SV} {k : Nat} (hk : k < c.length) : c.drop k = c[k]! :: c.drop (k + 1) := by rw [getElem!_pos c k hk, List.drop_eq_getElem_cons hk]
theorem OutK.same {kind : Int} {own : SV} {c : List SV} {d0 : Bool} {k : Nat} {pre : List SV} {d : Bool} (h : OutK kind own c d0 k pre d) (hk : k < c.length) (ht : (c[k]!).t = own.t) : OutK kind own c d0 (k + 1) pre d := by
  refine ⟨?_, by have := h.len; omega, fun q => by have := h.lend q; omega⟩
  have := h.eq
  rw [drop_consS hk, outS_cons, if_pos ht] at this
  exact this
theorem OutK.new {kind : Int} {own : SV} {c : List SV} {d0 : Bool} {k : Nat} {pre : List SV} (h : OutK kind own c d0 k pre false) (hk : k < c.length) (ht : ¬ (c[k]!).t = own.t) (hl : own.t.lt (c[k]!).t = true) : OutK kind own c d0 (k + 1) (pre ++ [own] ++ [markS kind own.t c[k]!]) true := by
  refine ⟨?_, by simp; have := h.lend rfl; omega, fun q => by cases q⟩
  have := h.eq
  rw [drop_consS hk, outS_cons, if_neg ht, if_pos ⟨rfl, hl⟩] at this
  rw [← this]
  simp
theorem OutK.old {kind : Int} {own : SV} {c : List SV} {d0 : Bool} {k : Nat} {pre : List SV} {d : Bool} (h : OutK kind own c d0 k pre d) (hk : k < c.length) (ht : ¬ (c[k]!).t = own.t) (hl : ¬ (d = false ∧ own.t.lt (c[k]!).t = true)) : OutK kind own c d0 (k + 1) (pre ++ [markS kind own.t c[k]!]) d := by
  refine ⟨?_, by simp; have := h.len; omega, fun q => by simp; have := h.lend q; omega⟩
  have := h.eq
  rw [drop_consS hk, outS_cons, if_neg ht, if_neg hl] at this
  rw [← this]
  simp
theorem OutK.end_yes {kind : Int} {own : SV} {c : List SV} {d0 : Bool} {pre : List SV} (h : OutK kind own c d0 c.length pre true) : pre = outS kind own c d0 := by
  have := h.eq
  rw [List.drop_length] at this
  rw [← this]
  unfold outS
  simp
theorem OutK.end_no {kind : Int} {own : SV} {c : List SV} {d0 : Bool} {pre : List SV} (h : OutK kind own c d0 c.length pre false) : pre ++ [own] = outS kind own c d0 := by
  have := h.eq
  rw [List.drop_length] at this
  rw [← this]
  unfold outS
  simp
/-- whether one that stood hangs on it, going along -/
def lateX (kind : Int) (t : TV) (x : SV) : Bool := decide (x.t ≠ t) && ((decide (kind = 14) && t.le x.t) && (x.fired && !x.dirty))
def lateK (c : List SV) (kind : Int) (t : TV) (k : Nat) : Bool := ((xS c t).fired && !(xS c t).dirty) || (c.take k).any (lateX kind t)
theorem lateK_zero (c : List SV) (kind : Int) (t : TV) : lateK c kind t 0 = ((xS c t).fired && !(xS c t).dirty) := by unfold lateK; simp
theorem lateK_succ (c : List SV) (kind : Int) (t : TV) (k : Nat) (hk : k < c.length) : lateK c kind t (k + 1) = (lateK c kind t k || lateX kind t c[k]!) := by
  unfold lateK
  rw [take_getA c k hk, List.any_append, List.any_cons, List.any_nil, Bool.or_false, Bool.or_assoc]
theorem lateK_done {c : List SV} (hc : GoodSl c) (kind : Int) (t : TV) : lateK c kind t c.length = lateL kind t c := by
  rw [Bool.eq_iff_iff]
  unfold lateK lateL
  rw [List.take_length, Bool.or_eq_true, List.any_eq_true, List.any_eq_true]
  refine ⟨fun h => ?_, fun ⟨x, hx, h⟩ => ?_⟩
  · rcases h with h | ⟨x, hx, h⟩
    · cases e : lookS c t with
      | none => unfold xS at h; rw [e] at h; cases h
      | some x =>
        have hm := lookS_mem e
        have hx : xS c t = x := by unfold xS; rw [e]; rfl
        rw [hx] at h
        refine ⟨x, hm.1, ?_⟩
        unfold hangs
        rw [h, decide_eq_true hm.2]
        rfl
    · refine ⟨x, hx, ?_⟩
      unfold lateX at h
      unfold hangs
      simp only [Bool.and_eq_true] at h ⊢
      refine ⟨h.2.2, ?_⟩
      rw [Bool.or_eq_true, Bool.and_eq_true]
      exact .inr h.2.1
  · rw [Bool.and_eq_true] at h
    by_cases e : x.t = t
    · obtain ⟨j, hj, rfl⟩ := List.mem_iff_getElem.1 hx
      have q := look_one hc hj (t := t) (by rw [getElem!_pos c j hj]; exact e)
      have hx2 : xS c t = c[j] := by unfold xS; rw [q, getElem!_pos c j hj]; rfl
      exact .inl (by rw [hx2]; exact h.1)
    · refine .inr ⟨x, hx, ?_⟩
      have h2 := h.2
      unfold hangs at h2
      rw [decide_eq_false e, Bool.false_or] at h2
      unfold lateX
      rw [h2, h.1, decide_eq_true e]
      rfl
/-- a raw slot that is marked -/
def markW (m : Bool) (x : SW) : SW := ⟨x.t, x.p0, x.n0, x.c0, x.p1, x.n1, x.c1, x.p2, x.n2, x.c2, x.d || m, x.f⟩
theorem isSl_mark {w : World} {x : SW} {b : SV} (h : isSl w x b) (kind : Int) (t : TV) : isSl w (markW (decide (kind = 14) && t.le b.t) x) (markS kind t b) :=
  ⟨h.t, by show (x.d || _) = (b.dirty || _); rw [h.d], h.f, h.n0, h.k0, h.l0, h.n1, h.k1, h.l1, h.n2, h.k2, h.l2⟩
end Go.Proofs.YthhceggcdaljdaaGreat
/- the document's Empty -/
namespace Go.Proofs.YthhceggcdaljdaaGreat
open Go.RowKit
set_option linter.unusedVariables false
set_option linter.unusedSimpArgs false

set_option maxRecDepth 100000 in
set_option maxHeartbeats 4000000 in
/-- a slot by value: is nothing there? -/
theorem cempty_any (x : SW) (w : World) : Calls Tryz.prog 54 #[SW.val x] w (Ret (.bool (decide (x.n0 = 0) && (decide (x.n1 = 0) && decide (x.n2 = 0)))) w) := by
  obtain ⟨⟨td, t0, t1, t2, t3⟩, p0, n0, c0, p1, n1, c1, p2, n2, c2, xd, xf⟩ := x
  dsimp only
  have HB := Lib.hid ((Below.refl w.heap.size w).alloc (Nat.le_refl _) (.cells #[.int .i64 td, .int .i64 t0, .int .i64 t1, .int .i64 t2, .int .i64 t3, .slice p0 n0 c0, .slice p1 n1 c1, .slice p2 n2 c2, .bool xd, .bool xf] 40))
  by_cases h0 : n0 = 0
  · subst h0
    by_cases h1 : n1 = 0
    · subst h1
      by_cases h2 : n2 = 0
      · subst h2
        go_enter Tryz.func54, Tryz.ntmps54
        go_wp2
        go_returns
        exact ⟨rfl, HB.out⟩
      · have d2 : ((n2 : Int) == 0) = false := by simp; omega
        go_enter Tryz.func54, Tryz.ntmps54
        go_wp2
        go_returns
        exact ⟨by simp [h2], HB.out⟩
    · have d1 : ((n1 : Int) == 0) = false := by simp; omega
      go_enter Tryz.func54, Tryz.ntmps54
      go_wp2
      go_returns
      exact ⟨by simp [h1], HB.out⟩
  · have d0 : ((n0 : Int) == 0) = false := by simp; omega
    go_enter Tryz.func54, Tryz.ntmps54
    go_wp2
    go_returns
    exact ⟨by simp [h0], HB.out⟩
end Go.Proofs.YthhceggcdaljdaaGreat
/- a world beyond another one -/
namespace Go.Proofs.YthhceggcdaljdaaGreat
open Go.RowKit Go.Sort
set_option linter.unusedVariables false
set_option linter.unusedSimpArgs false

theorem grow_of_below {w w' : World} (h : Below w.heap.size w w') (hd : w.drawn ≤ w'.drawn) : ∃ q os', w' = grow (w.drewN q) os' := by
  refine ⟨w'.drawn - w.drawn, w'.heap.extract w.heap.size w'.heap.size, ?_⟩
  obtain ⟨h1, h2, h3, h4, h5⟩ := h
  obtain ⟨hp, tp, dr, os, out⟩ := w
  obtain ⟨hp', tp', dr', os', out'⟩ := w'
  simp only at h1 h2 h3 h4 h5 hd
  subst h1 h2 h3
  unfold grow World.drewN
  simp only [World.mk.injEq, true_and, and_true]
  refine ⟨?_, by omega⟩
  refine Array.ext_getElem? fun i => ?_
  rw [Array.getElem?_append]
  split
  · exact h5 i (by assumption)
  · rename_i hi
    rw [Array.getElem?_extract]
    split
    · congr 1; omega
    · rw [Array.getElem?_eq_none (by omega)]
end Go.Proofs.YthhceggcdaljdaaGreat
