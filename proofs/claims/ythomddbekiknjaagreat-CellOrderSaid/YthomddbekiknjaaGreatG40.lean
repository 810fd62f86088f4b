/- the program's Come -/
import Derived.Test.YthomddbekiknjaaGreatG39
import Derived.Deep.RegionHeldLaw
import Derived.Test.YthomddbekiknjaaGreatG28
import Derived.Test.YthomddbekiknjaaGreatG29
namespace Go.Proofs.YthomddbekiknjaaGreat
open Go.RowKit
set_option linter.unusedVariables false
set_option linter.unusedSimpArgs false

theorem begun_split {c : List SV} (hc : GoodSl c) {t : TV} (ht : t.ok = true) {k : Nat} (h : AtK c t k) : ∃ A o B hit, Around c t k A o B hit ∧ begunS c t k = A ++ o :: B := by
  have q := around_of hc ht h
  by_cases e : k < c.length ∧ (c[k]!).t = t
  · exact ⟨_, _, _, _, q.1 e, by unfold begunS; rw [if_pos e]; exact (q.1 e).yes rfl⟩
  · exact ⟨_, _, _, _, q.2 e, by unfold begunS; rw [if_neg e]⟩
theorem mid_get {A B : List SV} {o : SV} {k : Nat} (h : A.length = k) : (A ++ o :: B)[k]! = o := by
  rw [getElem!_pos (A ++ o :: B) k (by simp; omega), List.getElem_append_right (by omega)]
  simp [h]
theorem mid_set {A B : List SV} {o x : SV} {k : Nat} (h : A.length = k) : (A ++ o :: B).set k x = A ++ x :: B := by
  subst h
  rw [List.set_append_right _ _ (Nat.le_refl _), Nat.sub_self]
  rfl
def ComeR (c : List SV) (kind port : Int) (t : TV) (r : RV) (n : Int) (w : World) (e : Ending) (w' : World) : Prop := ∃ u, e = .returned (.tuple #[u, .bool (lateS c kind port t n), .bool (comeOk c port t n)]) ∧ IsCl w' u (comeF c kind port t r n) ∧ capOk u ∧ Below w.heap.size w w'
theorem lateS_is (c : List SV) (kind port : Int) (t : TV) (n : Int) : lateS c kind port t n = (comeOk c port t n && lateL kind t c) := rfl
theorem come_no {c : List SV} {kind port : Int} {t : TV} {r : RV} {n : Int} {w w' : World} {u : Value} (h : comeOk c port t n = false) (hi : IsCl w' u c) (hc : capOk u) (hb : Below w.heap.size w w') : ComeR c kind port t r n w (.returned (.tuple #[u, .bool false, .bool false])) w' :=
  ⟨u, by rw [lateS_is, h]; rfl, by unfold comeF; rw [if_neg (by rw [h]; decide)]; exact hi, hc, hb⟩
theorem come_yes {c : List SV} {kind port : Int} {t : TV} {r : RV} {n : Int} {w w' : World} {u : Value} {l : Bool} {d : List SV} (h : comeOk c port t n = true) (hl : l = lateL kind t c) (hd : d = comeS c kind port t r n) (hi : IsCl w' u d) (hc : capOk u) (hb : Below w.heap.size w w') : ComeR c kind port t r n w (.returned (.tuple #[u, .bool l, .bool true])) w' :=
  ⟨u, by rw [lateS_is, h, hl]; rfl, by unfold comeF; rw [if_pos h, ← hd]; exact hi, hc, hb⟩
/-- what comes of begun, the record and soil -/
theorem come_steps {c : List SV} (hc : GoodSl c) {t : TV} (ht : t.ok = true) {k : Nat} (h : AtK c t k) (kind port : Int) (r : RV) (n : Int) :
    ∃ o, k < (begunS c t k).length ∧ (begunS c t k)[k]! = o ∧ o = xS c t ∧ lateL kind t ((begunS c t k).set k (addS o port r n)) = lateL kind t c ∧
    (if (((((begunS c t k).set k (addS o port r n)).map (soilS kind t))[k]!).empty = true) then (((begunS c t k).set k (addS o port r n)).map (soilS kind t)).eraseIdx k else ((begunS c t k).set k (addS o port r n)).map (soilS kind t)) = comeS c kind port t r n := by
  obtain ⟨A, o, B, hit, ha, e⟩ := begun_split hc ht h
  refine ⟨o, by rw [e]; simp; have := ha.len; omega, by rw [e]; exact mid_get ha.len, ha.look.symm, ?_, ?_⟩
  · rw [e, mid_set ha.len]
    exact late_is ha kind port r n
  · rw [e, mid_set ha.len, soiled ha.own, mid_get (by rw [List.length_map]; exact ha.len), comeA_is ha, comeA_gone, ha.len]
theorem begunS_len (c : List SV) (t : TV) (k : Nat) : (begunS c t k).length ≤ c.length + 1 := by
  unfold begunS
  split
  · omega
  · simp; omega
/-- a slot with another bag of its -/
theorem isSl_add {w : World} {x : SW} {o : SV} (h : isSl w x o) (port : Int) (hp : port = 0 ∨ port = 1) (r : RV) (n : Int) {p : Option Addr} {m cc : Nat} {l : List IV} (hl : l = if port = 0 then addI o.a r n else addI o.b r n) (hm : m = l.length) (hk : m ≤ cc) (hi : RI.Is w (.slice p m cc) l) :
    isSl w (if port = 0 then ⟨x.t, p, m, cc, x.p1, x.n1, x.c1, x.p2, x.n2, x.c2, x.d, x.f⟩ else ⟨x.t, x.p0, x.n0, x.c0, p, m, cc, x.p2, x.n2, x.c2, x.d, x.f⟩) (addS o port r n) := by
  subst hm
  unfold addS
  by_cases e : port = 0
  · rw [if_pos e] at *
    subst hl
    rw [if_pos e]
    exact ⟨h.t, h.d, h.f, rfl, hk, hi, h.n1, h.k1, h.l1, h.n2, h.k2, h.l2⟩
  · rw [if_neg e] at *
    subst hl
    rw [if_neg e]
    exact ⟨h.t, h.d, h.f, h.n0, h.k0, h.l0, rfl, hk, hi, h.n2, h.k2, h.l2⟩
set_option maxRecDepth 100000 in
set_option maxHeartbeats 16000000 in
theorem pcome_bad0 (c : List SV) (v : Value) (kind port : Int) (t : TV) (r : RV) (n : Int) (w : World) (hs : SmallC 100000 c) (h : IsCl w v c) (q0 : port < 0) : Calls Tryz.prog 8 #[v, .int .i64 kind, .int .i64 port, TV.val t, RV.val r, .int .i64 n] w (ComeR c kind port t r n w) := by
  have hok : comeOk c port t n = false := by
    cases e : comeOk c port t n
    · rfl
    · have := (comeOk_iff c port t n).1 e
      omega
  have d0 : decide (port < 0) = true := decide_eq_true q0
  clear q0
  have HOk := Lib.hid hok
  clear hok
  generalize hR : ComeR c kind port t r n w = R at *
  have HNo : Hid (∀ w' u, IsCl w' u c → capOk u → Below w.heap.size w w' → R (.returned (.tuple #[u, .bool false, .bool false])) w') := fun w' u h1 h2 h3 => hR ▸ come_no HOk.out h1 h2 h3
  clear hR
  have HC := Lib.hid h
  obtain ⟨xs, hx0, hx1⟩ := h
  obtain ⟨pv, kv, rfl⟩ := hx0.slice
  obtain ⟨td, t0, t1, t2, t3⟩ := t
  obtain ⟨rk, rv⟩ := r
  have hb0 := ((Below.refl w.heap.size w).alloc (Nat.le_refl _) (.cells #[.int .i64 td, .int .i64 t0, .int .i64 t1, .int .i64 t2, .int .i64 t3] 25)).alloc (by simp) (.cells #[.int .i64 rk, .int .i64 rv] 27)
  have hbt := (BT5.new w ⟨td, t0, t1, t2, t3⟩).more (.cells #[.int .i64 rk, .int .i64 rv] 27)
  have hbr := BR2.new (w.alloc (.cells #[.int .i64 td, .int .i64 t0, .int .i64 t1, .int .i64 t2, .int .i64 t3] 25)) ⟨rk, rv⟩
  rw [World.size_alloc] at hbr
  dsimp only at hbt hbr
  go_enter Tryz.func8, Tryz.ntmps8
  go_upto_region 1 with (fail)
  generalize (w.alloc (.cells #[.int .i64 td, .int .i64 t0, .int .i64 t1, .int .i64 t2, .int .i64 t3] 25)).alloc (.cells #[.int .i64 rk, .int .i64 rv] 27) = w0 at *
  have HB0 := Lib.hid hb0
  have hA0 := hx1.below hb0
  have HCl := Lib.hid (pcloneC_any xs _ w0 (by have := hs.1; have := hx1.1; omega) (hx0.below hb0))
  have HBt := Lib.hid hbt
  have HBr := Lib.hid hbr
  clear hb0 hbt hbr
  go_wp2_with fail
  refine (HCl.out).mono ?_
  rintro e w1 ⟨v1, rfl, hO1, hb1⟩
  have HX := Lib.hid (HNo.out w1 v1 ⟨xs, hO1.is, hA0.below hb1⟩ (ownCapC hO1) (HB0.out.trans (hb1.mono HB0.out.size)))
  clear hO1 hb1 HNo
  go_wp2
  exact HX.out
set_option maxRecDepth 100000 in
set_option maxHeartbeats 16000000 in
theorem pcome_bad1 (c : List SV) (v : Value) (kind port : Int) (t : TV) (r : RV) (n : Int) (w : World) (hs : SmallC 100000 c) (h : IsCl w v c) (q0 : ¬ port < 0) (q1 : 1 < port) : Calls Tryz.prog 8 #[v, .int .i64 kind, .int .i64 port, TV.val t, RV.val r, .int .i64 n] w (ComeR c kind port t r n w) := by
  have hok : comeOk c port t n = false := by
    cases e : comeOk c port t n
    · rfl
    · have := (comeOk_iff c port t n).1 e
      omega
  have d0 : decide (port < 0) = false := decide_eq_false q0
  have d1 : decide (1 < port) = true := decide_eq_true q1
  clear q0 q1
  have HOk := Lib.hid hok
  clear hok
  generalize hR : ComeR c kind port t r n w = R at *
  have HNo : Hid (∀ w' u, IsCl w' u c → capOk u → Below w.heap.size w w' → R (.returned (.tuple #[u, .bool false, .bool false])) w') := fun w' u h1 h2 h3 => hR ▸ come_no HOk.out h1 h2 h3
  clear hR
  have HC := Lib.hid h
  obtain ⟨xs, hx0, hx1⟩ := h
  obtain ⟨pv, kv, rfl⟩ := hx0.slice
  obtain ⟨td, t0, t1, t2, t3⟩ := t
  obtain ⟨rk, rv⟩ := r
  have hb0 := ((Below.refl w.heap.size w).alloc (Nat.le_refl _) (.cells #[.int .i64 td, .int .i64 t0, .int .i64 t1, .int .i64 t2, .int .i64 t3] 25)).alloc (by simp) (.cells #[.int .i64 rk, .int .i64 rv] 27)
  have hbt := (BT5.new w ⟨td, t0, t1, t2, t3⟩).more (.cells #[.int .i64 rk, .int .i64 rv] 27)
  have hbr := BR2.new (w.alloc (.cells #[.int .i64 td, .int .i64 t0, .int .i64 t1, .int .i64 t2, .int .i64 t3] 25)) ⟨rk, rv⟩
  rw [World.size_alloc] at hbr
  dsimp only at hbt hbr
  go_enter Tryz.func8, Tryz.ntmps8
  go_upto_region 1 with (fail)
  generalize (w.alloc (.cells #[.int .i64 td, .int .i64 t0, .int .i64 t1, .int .i64 t2, .int .i64 t3] 25)).alloc (.cells #[.int .i64 rk, .int .i64 rv] 27) = w0 at *
  have HB0 := Lib.hid hb0
  have hA0 := hx1.below hb0
  have HCl := Lib.hid (pcloneC_any xs _ w0 (by have := hs.1; have := hx1.1; omega) (hx0.below hb0))
  have HBt := Lib.hid hbt
  have HBr := Lib.hid hbr
  clear hb0 hbt hbr
  go_wp2_with fail
  refine (HCl.out).mono ?_
  rintro e w1 ⟨v1, rfl, hO1, hb1⟩
  have HX := Lib.hid (HNo.out w1 v1 ⟨xs, hO1.is, hA0.below hb1⟩ (ownCapC hO1) (HB0.out.trans (hb1.mono HB0.out.size)))
  clear hO1 hb1 HNo
  go_wp2
  exact HX.out
set_option maxRecDepth 100000 in
set_option maxHeartbeats 16000000 in
theorem pcome_bad2 (c : List SV) (v : Value) (kind port : Int) (t : TV) (r : RV) (n : Int) (w : World) (hs : SmallC 100000 c) (h : IsCl w v c) (q0 : ¬ port < 0) (q1 : ¬ 1 < port) (q2 : n = 0) : Calls Tryz.prog 8 #[v, .int .i64 kind, .int .i64 port, TV.val t, RV.val r, .int .i64 n] w (ComeR c kind port t r n w) := by
  have hok : comeOk c port t n = false := by
    cases e : comeOk c port t n
    · rfl
    · have := (comeOk_iff c port t n).1 e
      omega
  have d0 : decide (port < 0) = false := decide_eq_false q0
  have d1 : decide (1 < port) = false := decide_eq_false q1
  have d2 : (n == 0) = true := by simp; exact q2
  clear q0 q1 q2
  have HOk := Lib.hid hok
  clear hok
  generalize hR : ComeR c kind port t r n w = R at *
  have HNo : Hid (∀ w' u, IsCl w' u c → capOk u → Below w.heap.size w w' → R (.returned (.tuple #[u, .bool false, .bool false])) w') := fun w' u h1 h2 h3 => hR ▸ come_no HOk.out h1 h2 h3
  clear hR
  have HC := Lib.hid h
  obtain ⟨xs, hx0, hx1⟩ := h
  obtain ⟨pv, kv, rfl⟩ := hx0.slice
  obtain ⟨td, t0, t1, t2, t3⟩ := t
  obtain ⟨rk, rv⟩ := r
  have hb0 := ((Below.refl w.heap.size w).alloc (Nat.le_refl _) (.cells #[.int .i64 td, .int .i64 t0, .int .i64 t1, .int .i64 t2, .int .i64 t3] 25)).alloc (by simp) (.cells #[.int .i64 rk, .int .i64 rv] 27)
  have hbt := (BT5.new w ⟨td, t0, t1, t2, t3⟩).more (.cells #[.int .i64 rk, .int .i64 rv] 27)
  have hbr := BR2.new (w.alloc (.cells #[.int .i64 td, .int .i64 t0, .int .i64 t1, .int .i64 t2, .int .i64 t3] 25)) ⟨rk, rv⟩
  rw [World.size_alloc] at hbr
  dsimp only at hbt hbr
  go_enter Tryz.func8, Tryz.ntmps8
  go_upto_region 1 with (fail)
  generalize (w.alloc (.cells #[.int .i64 td, .int .i64 t0, .int .i64 t1, .int .i64 t2, .int .i64 t3] 25)).alloc (.cells #[.int .i64 rk, .int .i64 rv] 27) = w0 at *
  have HB0 := Lib.hid hb0
  have hA0 := hx1.below hb0
  have HCl := Lib.hid (pcloneC_any xs _ w0 (by have := hs.1; have := hx1.1; omega) (hx0.below hb0))
  have HBt := Lib.hid hbt
  have HBr := Lib.hid hbr
  clear hb0 hbt hbr
  go_wp2_with fail
  refine (HCl.out).mono ?_
  rintro e w1 ⟨v1, rfl, hO1, hb1⟩
  have HX := Lib.hid (HNo.out w1 v1 ⟨xs, hO1.is, hA0.below hb1⟩ (ownCapC hO1) (HB0.out.trans (hb1.mono HB0.out.size)))
  clear hO1 hb1 HNo
  go_wp2
  exact HX.out
set_option maxRecDepth 100000 in
set_option maxHeartbeats 16000000 in
theorem pcome_bad3 (c : List SV) (v : Value) (kind port : Int) (t : TV) (r : RV) (n : Int) (w : World) (hs : SmallC 100000 c) (h : IsCl w v c) (q0 : ¬ port < 0) (q1 : ¬ 1 < port) (q2 : ¬ n = 0) (q3 : n < -2147483648) : Calls Tryz.prog 8 #[v, .int .i64 kind, .int .i64 port, TV.val t, RV.val r, .int .i64 n] w (ComeR c kind port t r n w) := by
  have hok : comeOk c port t n = false := by
    cases e : comeOk c port t n
    · rfl
    · have := (comeOk_iff c port t n).1 e
      omega
  have d0 : decide (port < 0) = false := decide_eq_false q0
  have d1 : decide (1 < port) = false := decide_eq_false q1
  have d2 : (n == 0) = false := by simp; exact q2
  have d3 : decide (n < -2147483648) = true := decide_eq_true q3
  clear q0 q1 q2 q3
  have HOk := Lib.hid hok
  clear hok
  generalize hR : ComeR c kind port t r n w = R at *
  have HNo : Hid (∀ w' u, IsCl w' u c → capOk u → Below w.heap.size w w' → R (.returned (.tuple #[u, .bool false, .bool false])) w') := fun w' u h1 h2 h3 => hR ▸ come_no HOk.out h1 h2 h3
  clear hR
  have HC := Lib.hid h
  obtain ⟨xs, hx0, hx1⟩ := h
  obtain ⟨pv, kv, rfl⟩ := hx0.slice
  obtain ⟨td, t0, t1, t2, t3⟩ := t
  obtain ⟨rk, rv⟩ := r
  have hb0 := ((Below.refl w.heap.size w).alloc (Nat.le_refl _) (.cells #[.int .i64 td, .int .i64 t0, .int .i64 t1, .int .i64 t2, .int .i64 t3] 25)).alloc (by simp) (.cells #[.int .i64 rk, .int .i64 rv] 27)
  have hbt := (BT5.new w ⟨td, t0, t1, t2, t3⟩).more (.cells #[.int .i64 rk, .int .i64 rv] 27)
  have hbr := BR2.new (w.alloc (.cells #[.int .i64 td, .int .i64 t0, .int .i64 t1, .int .i64 t2, .int .i64 t3] 25)) ⟨rk, rv⟩
  rw [World.size_alloc] at hbr
  dsimp only at hbt hbr
  go_enter Tryz.func8, Tryz.ntmps8
  go_upto_region 1 with (fail)
  generalize (w.alloc (.cells #[.int .i64 td, .int .i64 t0, .int .i64 t1, .int .i64 t2, .int .i64 t3] 25)).alloc (.cells #[.int .i64 rk, .int .i64 rv] 27) = w0 at *
  have HB0 := Lib.hid hb0
  have hA0 := hx1.below hb0
  have HCl := Lib.hid (pcloneC_any xs _ w0 (by have := hs.1; have := hx1.1; omega) (hx0.below hb0))
  have HBt := Lib.hid hbt
  have HBr := Lib.hid hbr
  clear hb0 hbt hbr
  go_wp2_with fail
  refine (HCl.out).mono ?_
  rintro e w1 ⟨v1, rfl, hO1, hb1⟩
  have HX := Lib.hid (HNo.out w1 v1 ⟨xs, hO1.is, hA0.below hb1⟩ (ownCapC hO1) (HB0.out.trans (hb1.mono HB0.out.size)))
  clear hO1 hb1 HNo
  go_wp2
  exact HX.out
set_option maxRecDepth 100000 in
set_option maxHeartbeats 16000000 in
theorem pcome_bad4 (c : List SV) (v : Value) (kind port : Int) (t : TV) (r : RV) (n : Int) (w : World) (hs : SmallC 100000 c) (h : IsCl w v c) (q0 : ¬ port < 0) (q1 : ¬ 1 < port) (q2 : ¬ n = 0) (q3 : ¬ n < -2147483648) (q4 : 2147483648 < n) : Calls Tryz.prog 8 #[v, .int .i64 kind, .int .i64 port, TV.val t, RV.val r, .int .i64 n] w (ComeR c kind port t r n w) := by
  have hok : comeOk c port t n = false := by
    cases e : comeOk c port t n
    · rfl
    · have := (comeOk_iff c port t n).1 e
      omega
  have d0 : decide (port < 0) = false := decide_eq_false q0
  have d1 : decide (1 < port) = false := decide_eq_false q1
  have d2 : (n == 0) = false := by simp; exact q2
  have d3 : decide (n < -2147483648) = false := decide_eq_false q3
  have d4 : decide (2147483648 < n) = true := decide_eq_true q4
  clear q0 q1 q2 q3 q4
  have HOk := Lib.hid hok
  clear hok
  generalize hR : ComeR c kind port t r n w = R at *
  have HNo : Hid (∀ w' u, IsCl w' u c → capOk u → Below w.heap.size w w' → R (.returned (.tuple #[u, .bool false, .bool false])) w') := fun w' u h1 h2 h3 => hR ▸ come_no HOk.out h1 h2 h3
  clear hR
  have HC := Lib.hid h
  obtain ⟨xs, hx0, hx1⟩ := h
  obtain ⟨pv, kv, rfl⟩ := hx0.slice
  obtain ⟨td, t0, t1, t2, t3⟩ := t
  obtain ⟨rk, rv⟩ := r
  have hb0 := ((Below.refl w.heap.size w).alloc (Nat.le_refl _) (.cells #[.int .i64 td, .int .i64 t0, .int .i64 t1, .int .i64 t2, .int .i64 t3] 25)).alloc (by simp) (.cells #[.int .i64 rk, .int .i64 rv] 27)
  have hbt := (BT5.new w ⟨td, t0, t1, t2, t3⟩).more (.cells #[.int .i64 rk, .int .i64 rv] 27)
  have hbr := BR2.new (w.alloc (.cells #[.int .i64 td, .int .i64 t0, .int .i64 t1, .int .i64 t2, .int .i64 t3] 25)) ⟨rk, rv⟩
  rw [World.size_alloc] at hbr
  dsimp only at hbt hbr
  go_enter Tryz.func8, Tryz.ntmps8
  go_upto_region 1 with (fail)
  generalize (w.alloc (.cells #[.int .i64 td, .int .i64 t0, .int .i64 t1, .int .i64 t2, .int .i64 t3] 25)).alloc (.cells #[.int .i64 rk, .int .i64 rv] 27) = w0 at *
  have HB0 := Lib.hid hb0
  have hA0 := hx1.below hb0
  have HCl := Lib.hid (pcloneC_any xs _ w0 (by have := hs.1; have := hx1.1; omega) (hx0.below hb0))
  have HBt := Lib.hid hbt
  have HBr := Lib.hid hbr
  clear hb0 hbt hbr
  go_wp2_with fail
  refine (HCl.out).mono ?_
  rintro e w1 ⟨v1, rfl, hO1, hb1⟩
  have HX := Lib.hid (HNo.out w1 v1 ⟨xs, hO1.is, hA0.below hb1⟩ (ownCapC hO1) (HB0.out.trans (hb1.mono HB0.out.size)))
  clear hO1 hb1 HNo
  go_wp2
  exact HX.out
end Go.Proofs.YthomddbekiknjaaGreat
/- the program's: the bags of which a slot is made; Apply over them; Make as plain facts -/
namespace Go.Proofs.YthomddbekiknjaaGreat
open Go.RowKit
set_option linter.unusedVariables false
set_option linter.unusedSimpArgs false

/-- two bags in memory, side by side -/
def PortsR (a b : List IV) (w : World) (e : Ending) (w' : World) : Prop := ∃ g o cp va vb, e = .returned (.slice (some ⟨g, o, none⟩) 2 cp) ∧ w'.cell? ⟨g, o, none⟩ = some va ∧ w'.cell? ⟨g, o + 1, none⟩ = some vb ∧ PortA w' va a ∧ PortA w' vb b ∧ Below w.heap.size w w'
theorem apply_ports {k s arg : Int} {q : Option Addr} {c : Nat} {p : List NV} {va vb : Value} {a b : List IV} {g o cp : Nat} {w : World} (hN : NodeA k w q c arg p) (hA : PortA w va a) (hB : PortA w vb b) (g0 : w.cell? ⟨g, o, none⟩ = some va) (g1 : w.cell? ⟨g, o + 1, none⟩ = some vb) :
    Calls Tryz.prog 46 #[.agg #[.int .i64 k, .int .i64 s, .int .i64 arg, .slice q p.length c], .slice (some ⟨g, o, none⟩) 2 cp] w (ApR k arg p (thereI a) (thereI b) w) := by
  have hg : g < w.heap.size := cell_in g0
  refine papply_any k s arg q c p _ 2 cp _ _ w hN.i hN.l hN.n hN.a (Nat.le_trans (there_len a) hA.l) (Nat.le_trans (there_len b) hB.l) (fun x hx => ⟨hA.q x (there_mem x hx).1, (there_mem x hx).2⟩) (fun x hx => ⟨hB.q x (there_mem x hx).1, (there_mem x hx).2⟩) (fun V hV => ?_) (fun V hV => ?_)
  · exact pthere_in a va g o 2 cp 0 V (by have := hA.l; omega) (by decide) (by decide) (Nat.lt_of_lt_of_le hg hV.size) ((hV.cell (p := ⟨g, o, none⟩) hg).trans g0) (hA.i.below hV)
  · exact pthere_in b vb g o 2 cp 1 V (by have := hB.l; omega) (by decide) (by decide) (Nat.lt_of_lt_of_le hg hV.size) ((hV.cell (p := ⟨g, o + 1, none⟩) hg).trans g1) (hB.i.below hV)
/-- the numbers of a bag's records are numbers -/
def inB (l : List IV) : Prop := ∀ i ∈ l, inR i.t.k ∧ inR i.t.v
def inCell (c : List SV) : Prop := ∀ x ∈ c, inB x.a ∧ inB x.b
set_option maxRecDepth 100000 in
set_option maxHeartbeats 8000000 in
theorem pports_one (c : List SV) (v : Value) (i : Nat) (kind : Int) (w : World) (hs : SmallC 100000 c) (h : IsCl w v c) (hi : i < c.length) (hin : inCell c) (hk : ¬ kind = 14) : Calls Tryz.prog 48 #[v, .int .i64 (i : Int), .int .i64 kind] w (PortsR (c[i]!).a (c[i]!).b w) := by
  obtain ⟨xs, hx0, hx1⟩ := h
  obtain ⟨p, k0, rfl, ho⟩ := isOpenedD hx0
  have hxn : xs.length = c.length := hx1.1
  obtain ⟨b, off, rfl, hb, hrow⟩ := ho i (by omega)
  obtain ⟨e0, e1, e2, e3, e4, e5, e6, e7, e8, e9⟩ := atSl hrow i (by omega)
  have hx := hx1.2 i hi
  have hq := hs.2 _ (getElem!_memS hi)
  have hn := hin _ (getElem!_memS hi)
  have HX : Hid (PortsR (c[i]!).a (c[i]!).b w (.returned (.slice (some ⟨b, off + i * 10 + 5, none⟩) 2 2)) w) := ⟨b, off + i * 10 + 5, 2, _, _, rfl, e5, e6, ⟨hx.l0, by omega, hn.1⟩, ⟨hx.l1, by omega, hn.2⟩, Below.refl _ _⟩
  have hk2 : (kind == 14) = false := by simp; exact hk
  have hic : (i : Int) < (xs.length : Int) := by omega
  generalize PortsR (c[i]!).a (c[i]!).b w = R at *
  have hsz : xs.length ≤ 100000 := by have := hs.1; omega
  clear e0 e1 e2 e3 e4 e7 e8 e9 hx hq hn hrow ho hx0 hx1 hs hin hk hxn
  go_enter Tryz.func48, Tryz.ntmps48
  go_wp2
  exact HX.out
/-! ### Make, plain -/
def madeS (x : SV) (l : List IV) : SV := ⟨x.t, x.a, x.b, l, false, true⟩
def makeL (c : List SV) (t : TV) (x : SV) (l : List IV) : List SV := if (madeS x l).empty = true then c.filter (fun y => decide (y.t ≠ t)) else c.map (fun y => if y.t = t then madeS x l else y)
def nowO (kind arg : Int) (p : List NV) (sec : SV → List IV) (x : SV) : List IV × Bool := applyO kind arg p (thereI x.a) (thereI (sec x))
/-- the slot that is made anew, if one is -/
def makeX (c : List SV) (t : TV) (kind arg : Int) (p : List NV) (sec : SV → List IV) : Option SV := if rightSl c = true then (match lookS c t with
  | none => none
  | some x => if x.dirty = true ∧ (nowO kind arg p sec x).2 = true then some x else none) else none
def makeF (c : List SV) (t : TV) (kind arg : Int) (p : List NV) (sec : SV → List IV) (lazy : Bool) : List SV × (List IV × List IV) := match makeX c t kind arg p sec with
  | none => (c, ([], []))
  | some x => (makeL c t x (nowO kind arg p sec x).1, takeG x.s (nowO kind arg p sec x).1 lazy)
def MakeR (c : List SV) (t : TV) (kind arg : Int) (p : List NV) (sec : SV → List IV) (lazy : Bool) (w : World) (e : Ending) (w' : World) : Prop := ∃ u a b, e = .returned (.tuple #[u, a, b, .bool (makeX c t kind arg p sec).isSome]) ∧ IsCl w' u (makeF c t kind arg p sec lazy).1 ∧ capOk u ∧ RI.Own w.heap.size w' a (makeF c t kind arg p sec lazy).2.1 ∧ RI.Own w.heap.size w' b (makeF c t kind arg p sec lazy).2.2 ∧ Below w.heap.size w w'
theorem make_no {c : List SV} {t : TV} {kind arg : Int} {p : List NV} {sec : SV → List IV} {lazy : Bool} {w w' : World} {u : Value} (h : makeX c t kind arg p sec = none) (hi : IsCl w' u c) (hc : capOk u) (hb : Below w.heap.size w w') : MakeR c t kind arg p sec lazy w (.returned (.tuple #[u, .slice none 0 0, .slice none 0 0, .bool false])) w' := by
  have e : makeF c t kind arg p sec lazy = (c, ([], [])) := by unfold makeF; rw [h]
  exact ⟨u, _, _, by rw [h]; rfl, by rw [e]; exact hi, hc, by rw [e]; exact RowKind.Own.nil RI _ _, by rw [e]; exact RowKind.Own.nil RI _ _, hb⟩
theorem make_yes {c : List SV} {t : TV} {kind arg : Int} {p : List NV} {sec : SV → List IV} {lazy : Bool} {w w' : World} {u a b : Value} {x : SV} {l : List IV} {d : List SV} {tg : List IV × List IV} (h : makeX c t kind arg p sec = some x) (hl : l = (nowO kind arg p sec x).1) (hd : d = makeL c t x l) (ht : tg = takeG x.s l lazy) (hi : IsCl w' u d) (hc : capOk u) (ha : RI.Own w.heap.size w' a tg.1) (hb : RI.Own w.heap.size w' b tg.2) (hw : Below w.heap.size w w') : MakeR c t kind arg p sec lazy w (.returned (.tuple #[u, a, b, .bool true])) w' := by
  have e : makeF c t kind arg p sec lazy = (d, tg) := by unfold makeF; rw [h, hd, ht, hl]
  exact ⟨u, a, b, by rw [h]; rfl, by rw [e]; exact hi, hc, by rw [e]; exact ha, by rw [e]; exact hb, hw⟩
theorem makeX_right {c : List SV} {t : TV} {kind arg : Int} {p : List NV} {sec : SV → List IV} (h : rightSl c = false) : makeX c t kind arg p sec = none := by
  unfold makeX; rw [if_neg (by rw [h]; decide)]
theorem makeX_look {c : List SV} {t : TV} {kind arg : Int} {p : List NV} {sec : SV → List IV} (h : lookS c t = none) : makeX c t kind arg p sec = none := by
  unfold makeX; rw [h]; split <;> rfl
theorem makeX_dirty {c : List SV} {t : TV} {kind arg : Int} {p : List NV} {sec : SV → List IV} {x : SV} (h : lookS c t = some x) (hd : x.dirty = false) : makeX c t kind arg p sec = none := by
  unfold makeX; rw [h]; simp [hd]
theorem makeX_room {c : List SV} {t : TV} {kind arg : Int} {p : List NV} {sec : SV → List IV} {x : SV} (h : lookS c t = some x) (hd : (nowO kind arg p sec x).2 = false) : makeX c t kind arg p sec = none := by
  unfold makeX; rw [h]; simp [hd]
theorem makeX_yes {c : List SV} {t : TV} {kind arg : Int} {p : List NV} {sec : SV → List IV} {x : SV} (hr : rightSl c = true) (h : lookS c t = some x) (hd : x.dirty = true) (hn : (nowO kind arg p sec x).2 = true) : makeX c t kind arg p sec = some x := by
  unfold makeX; rw [if_pos hr, h]; simp [hd, hn]
/-- what the program does at a place -/
theorem make_steps {c : List SV} (hc : GoodSl c) {t : TV} {k : Nat} (hk : k < c.length) (ht : (c[k]!).t = t) (l : List IV) :
    (if (((c.set k (madeS c[k]! l))[k]!).empty = true) then (c.set k (madeS c[k]! l)).eraseIdx k else c.set k (madeS c[k]! l)) = makeL c t c[k]! l := by
  rw [getElem!_set_self _ _ _ hk]
  generalize hy : madeS c[k]! l = y
  have e : c = c.take k ++ c[k]! :: c.drop (k + 1) := by rw [getElem!_pos c k hk, ← List.drop_eq_getElem_cons hk, List.take_append_drop]
  have hl : (c.take k).length = k := by rw [List.length_take]; omega
  have hA : ∀ x ∈ c.take k, x.t ≠ t := fun x hx e2 => by
    obtain ⟨j, hj, rfl⟩ := List.mem_iff_getElem.1 hx
    rw [hl] at hj
    have q := List.pairwise_iff_getElem.1 hc.2 j k (by omega) hk hj
    rw [List.getElem_take, ← ht, getElem!_pos c k hk] at e2
    exact lt_ne q e2
  have hB : ∀ x ∈ c.drop (k + 1), x.t ≠ t := fun x hx e2 => by
    obtain ⟨j, hj, rfl⟩ := List.mem_iff_getElem.1 hx
    rw [List.length_drop] at hj
    have q := List.pairwise_iff_getElem.1 hc.2 k (k + 1 + j) hk (by omega) (by omega)
    rw [List.getElem_drop, ← ht, getElem!_pos c k hk] at e2
    exact lt_ne q e2.symm
  unfold makeL
  rw [hy]
  generalize c[k]! = x at *
  generalize c.take k = A at *
  generalize c.drop (k + 1) = B at *
  subst e
  rw [mid_set hl]
  have f1 : A.filter (fun y => decide (y.t ≠ t)) = A := List.filter_eq_self.2 fun x hx => by simpa using hA x hx
  have f2 : B.filter (fun y => decide (y.t ≠ t)) = B := List.filter_eq_self.2 fun x hx => by simpa using hB x hx
  have m1 : A.map (fun z => if z.t = t then y else z) = A := (List.map_congr_left fun x hx => by rw [if_neg (hA x hx)]; exact (id_eq x).symm).trans (List.map_id A)
  have m2 : B.map (fun z => if z.t = t then y else z) = B := (List.map_congr_left fun x hx => by rw [if_neg (hB x hx)]; exact (id_eq x).symm).trans (List.map_id B)
  split
  · rw [List.filter_append, List.filter_cons_of_neg (by simp [ht]), f1, f2, List.eraseIdx_append_of_length_le (by omega), hl, Nat.sub_self]
    rfl
  · rw [List.map_append, List.map_cons, m1, m2, if_pos ht]
end Go.Proofs.YthomddbekiknjaaGreat
