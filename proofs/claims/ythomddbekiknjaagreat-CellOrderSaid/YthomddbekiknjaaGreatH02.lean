/- CellOrder's walk, over what the program's functions do -/
import Derived.Test.YthomddbekiknjaaGreatG38
import Derived.Test.YthomddbekiknjaaGreatH01
import Derived.Test.YthomddbekiknjaaGreatG12
import Derived.Test.YthomddbekiknjaaGreatG44
import Derived.Deep.CutRange
import Derived.Deep.RegionLaw
namespace Go.Proofs.YthomddbekiknjaaGreat
open Go.RowKit
set_option linter.unusedVariables false
set_option linter.unusedSimpArgs false

theorem boxes4 (w : World) (t u : TV) (r s : RV) : BT5 ((((w.alloc (.cells #[.int .i64 t.d, .int .i64 t.c0, .int .i64 t.c1, .int .i64 t.c2, .int .i64 t.c3] 25)).alloc (.cells #[.int .i64 u.d, .int .i64 u.c0, .int .i64 u.c1, .int .i64 u.c2, .int .i64 u.c3] 25)).alloc (.cells #[.int .i64 r.k, .int .i64 r.v] 27)).alloc (.cells #[.int .i64 s.k, .int .i64 s.v] 27)) w.heap.size t ∧ BT5 ((((w.alloc (.cells #[.int .i64 t.d, .int .i64 t.c0, .int .i64 t.c1, .int .i64 t.c2, .int .i64 t.c3] 25)).alloc (.cells #[.int .i64 u.d, .int .i64 u.c0, .int .i64 u.c1, .int .i64 u.c2, .int .i64 u.c3] 25)).alloc (.cells #[.int .i64 r.k, .int .i64 r.v] 27)).alloc (.cells #[.int .i64 s.k, .int .i64 s.v] 27)) (w.heap.size + 1) u ∧ BR2 ((((w.alloc (.cells #[.int .i64 t.d, .int .i64 t.c0, .int .i64 t.c1, .int .i64 t.c2, .int .i64 t.c3] 25)).alloc (.cells #[.int .i64 u.d, .int .i64 u.c0, .int .i64 u.c1, .int .i64 u.c2, .int .i64 u.c3] 25)).alloc (.cells #[.int .i64 r.k, .int .i64 r.v] 27)).alloc (.cells #[.int .i64 s.k, .int .i64 s.v] 27)) (w.heap.size + 1 + 1) r ∧ BR2 ((((w.alloc (.cells #[.int .i64 t.d, .int .i64 t.c0, .int .i64 t.c1, .int .i64 t.c2, .int .i64 t.c3] 25)).alloc (.cells #[.int .i64 u.d, .int .i64 u.c0, .int .i64 u.c1, .int .i64 u.c2, .int .i64 u.c3] 25)).alloc (.cells #[.int .i64 r.k, .int .i64 r.v] 27)).alloc (.cells #[.int .i64 s.k, .int .i64 s.v] 27)) (w.heap.size + 1 + 1 + 1) s ∧ Below w.heap.size w ((((w.alloc (.cells #[.int .i64 t.d, .int .i64 t.c0, .int .i64 t.c1, .int .i64 t.c2, .int .i64 t.c3] 25)).alloc (.cells #[.int .i64 u.d, .int .i64 u.c0, .int .i64 u.c1, .int .i64 u.c2, .int .i64 u.c3] 25)).alloc (.cells #[.int .i64 r.k, .int .i64 r.v] 27)).alloc (.cells #[.int .i64 s.k, .int .i64 s.v] 27)) := by
  have h2 := ((BT5.new (w.alloc (.cells #[.int .i64 t.d, .int .i64 t.c0, .int .i64 t.c1, .int .i64 t.c2, .int .i64 t.c3] 25)) u).more (.cells #[.int .i64 r.k, .int .i64 r.v] 27)).more (.cells #[.int .i64 s.k, .int .i64 s.v] 27)
  have h3 := (BR2.new ((w.alloc (.cells #[.int .i64 t.d, .int .i64 t.c0, .int .i64 t.c1, .int .i64 t.c2, .int .i64 t.c3] 25)).alloc (.cells #[.int .i64 u.d, .int .i64 u.c0, .int .i64 u.c1, .int .i64 u.c2, .int .i64 u.c3] 25)) r).more (.cells #[.int .i64 s.k, .int .i64 s.v] 27)
  have h4 := BR2.new (((w.alloc (.cells #[.int .i64 t.d, .int .i64 t.c0, .int .i64 t.c1, .int .i64 t.c2, .int .i64 t.c3] 25)).alloc (.cells #[.int .i64 u.d, .int .i64 u.c0, .int .i64 u.c1, .int .i64 u.c2, .int .i64 u.c3] 25)).alloc (.cells #[.int .i64 r.k, .int .i64 r.v] 27)) s
  rw [size_alloc] at h2
  rw [size_alloc, size_alloc] at h3
  rw [size_alloc, size_alloc, size_alloc] at h4
  exact ⟨(((BT5.new w t).more _).more _).more _, h2, h3, h4, ((((Below.refl _ w).alloc (Nat.le_refl _) _).alloc (by rw [size_alloc]; omega) _).alloc (by rw [size_alloc, size_alloc]; omega) _).alloc (by rw [size_alloc, size_alloc, size_alloc]; omega) _⟩
attribute [local go_sem ↓] eqTime neTime
set_option maxRecDepth 100000 in
set_option maxHeartbeats 8000000 in
theorem cellOrder_walk (C : CellC) (HA0 : ∀ W : World, Calls Tryz.prog 6 #[] W (Ret (.bool true) W)) (c : List SV) (v : Value) (kind : Int) (t u : TV) (r s : RV) (n m : Int) (w : World) (h : IsCl w v c) (ca : capOk v)
    (hn : -128 ≤ n ∧ n ≤ 127) (hm : -128 ≤ m ∧ m ≤ 127) :
    Calls Tryz.prog 5 #[v, .int .i64 kind, TV.val t, TV.val u, RV.val r, RV.val s, .int .i8 n, .int .i8 m] w (Ret (.bool true) w) := by
  have HI := Lib.hid h
  have HC := Lib.hid ca
  have HA := Lib.hid HA0
  have HSh := Lib.hid (fun W hi => cshort_any c v W hi)
  clear h ca HA0
  go_enter Tryz.func5, Tryz.ntmps5
  go_upto_region 1 with (fail)
  have hbx := boxes4 w t u r s
  generalize ((((w.alloc (.cells #[.int .i64 t.d, .int .i64 t.c0, .int .i64 t.c1, .int .i64 t.c2, .int .i64 t.c3] 25)).alloc (.cells #[.int .i64 u.d, .int .i64 u.c0, .int .i64 u.c1, .int .i64 u.c2, .int .i64 u.c3] 25)).alloc (.cells #[.int .i64 r.k, .int .i64 r.v] 27)).alloc (.cells #[.int .i64 s.k, .int .i64 s.v] 27)) = w0 at hbx ⊢
  obtain ⟨hbt, hbu, hbr, hbs, hb0⟩ := hbx
  have HBt := Lib.hid hbt
  have HBu := Lib.hid hbu
  have HBr := Lib.hid hbr
  have HBs := Lib.hid hbs
  have HB0 := Lib.hid hb0
  clear hbt hbu hbr hbs hb0
  generalize w.heap.size + 1 + 1 + 1 = bs at *
  generalize w.heap.size + 1 + 1 = br at *
  generalize w.heap.size + 1 = bu at *
  generalize hbt : w.heap.size = bt at HBt ⊢
  clear hbt
  go_wp2_with fail
  refine (HA.out _).mono ?_
  rintro e w1 ⟨rfl, hb1⟩
  have HB1 := Lib.hid (bcall HB0.out hb1 HB0.out.size)
  have HBt1 := Lib.hid (HBt.out.below hb1)
  have HBu1 := Lib.hid (HBu.out.below hb1)
  have HBr1 := Lib.hid (HBr.out.below hb1)
  have HBs1 := Lib.hid (HBs.out.below hb1)
  have HI1 := Lib.hid (HI.out.below HB1.out)
  clear hb1 HA HBt HBu HBr HBs HI HB0
  have HS1 := Lib.hid (HSh.out w1 HI1.out)
  clear HSh
  generalize hsh : shortC c = sh at HS1
  cases sh
  · go_upto_region 3 with (fail)
    go_wp2_with fail
    refine (HS1.out).mono ?_
    rintro e w2 ⟨rfl, hb2⟩
    have HB2 := Lib.hid (bcall HB1.out hb2 HB1.out.size)
    go_wp2
    go_returns
    exact ⟨rfl, HB2.out⟩
  · have HL1 := Lib.hid (fun W hi => low_any c v W hi hsh)
    have HSm := Lib.hid (shortC_small hsh)
    generalize hlo : lowC c = lo at HL1
    cases lo
    · go_upto_region 3 with (fail)
      go_wp2_with fail
      refine (HS1.out).mono ?_
      rintro e w2 ⟨rfl, hb2⟩
      have HB2 := Lib.hid (bcall HB1.out hb2 HB1.out.size)
      have HI2 := Lib.hid (HI1.out.below hb2)
      have HL2 := Lib.hid (HL1.out w2 HI2.out)
      clear HL1 hb2
      go_wp2_with fail
      refine (HL2.out).mono ?_
      rintro e w3 ⟨rfl, hb3⟩
      have HB3 := Lib.hid (bcall HB2.out hb3 HB2.out.size)
      go_wp2
      go_returns
      exact ⟨rfl, HB3.out⟩
    · have HO := Lib.hid (order_same (order_plain (lowC_low hlo) kind t u r s (n := n) (m := m) ⟨hn.1, by omega⟩ ⟨hm.1, by omega⟩))
      have hs1 := small_come HSm.out kind 0 t r n
      have hs2 := small_come HSm.out kind 0 u s m
      have hs3 := small_come hs1 kind 0 u s m
      have hs4 := small_come hs2 kind 0 t r n
      have HK1 := Lib.hid (fun W hi => C.come c v kind 0 t r n W (HSm.out.mono (by decide)) hi HC.out)
      have HK2 := Lib.hid (fun W x hi hc => C.come (comeF c kind 0 t r n) x kind 0 u s m W (hs1.mono (by decide)) hi hc)
      have HK3 := Lib.hid (fun W hi => C.come c v kind 0 u s m W (HSm.out.mono (by decide)) hi HC.out)
      have HK4 := Lib.hid (fun W x hi hc => C.come (comeF c kind 0 u s m) x kind 0 t r n W (hs2.mono (by decide)) hi hc)
      rw [comeF_ok] at HK2 HK4
      have HT1 := Lib.hid (fun W x hi hc => C.stale (comeF (comeF c kind 0 t r n) kind 0 u s m) x W (hs3.mono (by decide)) hi hc)
      have HT2 := Lib.hid (fun W x hi hc => C.stale (comeF (comeF c kind 0 u s m) kind 0 t r n) x W (hs4.mono (by decide)) hi hc)
      have HS3 := Lib.hid hs3
      have HS4 := Lib.hid hs4
      clear hs1 hs2 hs3 hs4 HSm
      generalize lateS (comeF c kind 0 t r n) kind 0 u m = l2 at HK2
      generalize lateS (comeF c kind 0 u s m) kind 0 t n = l4 at HK4
      generalize lateS c kind 0 t n = l1 at HK1
      generalize lateS c kind 0 u m = l3 at HK3
      generalize comeOk c 0 t n = P at *
      generalize comeOk c 0 u m = Q at *
      generalize comeF (comeF c kind 0 t r n) kind 0 u s m = ca at *
      generalize comeF (comeF c kind 0 u s m) kind 0 t r n = cb at *
      generalize comeF c kind 0 t r n = c1 at *
      generalize comeF c kind 0 u s m = c2 at *
      rw [← HO.out.2.1] at HT2
      have HTl : Hid ((staleL ca).length ≤ 2000000000000) := by have := staleL_len ca; have := HS3.out.1; exact Nat.le_trans (staleL_len ca) (by omega)
      generalize staleL ca = T at *
      clear hsh hlo C
      go_upto_region 3 with (fail)
      go_wp2_with fail
      refine (HS1.out).mono ?_
      rintro e w2 ⟨rfl, hb2⟩
      have HB2 := Lib.hid (bcall HB1.out hb2 HB1.out.size)
      have HI2 := Lib.hid (HI1.out.below hb2)
      have HL2 := Lib.hid (HL1.out w2 HI2.out)
      have HBt2 := Lib.hid (HBt1.out.below hb2)
      have HBu2 := Lib.hid (HBu1.out.below hb2)
      have HBr2 := Lib.hid (HBr1.out.below hb2)
      have HBs2 := Lib.hid (HBs1.out.below hb2)
      clear HL1 hb2 HS1 HI1 HB1 HBt1 HBu1 HBr1 HBs1
      go_wp2_with fail
      refine (HL2.out).mono ?_
      rintro e w3 ⟨rfl, hb3⟩
      have HB3 := Lib.hid (bcall HB2.out hb3 HB2.out.size)
      have HI3 := Lib.hid (HI2.out.below hb3)
      have HBt3 := Lib.hid (HBt2.out.below hb3)
      have HBu3 := Lib.hid (HBu2.out.below hb3)
      have HBr3 := Lib.hid (HBr2.out.below hb3)
      have HBs3 := Lib.hid (HBs2.out.below hb3)
      clear hb3 HI2 HB2 HBt2 HBu2 HBr2 HBs2 HL2
      obtain ⟨t0, t1, t2, t3, t4, tl⟩ := HBt3.out
      obtain ⟨r0, r1, rl⟩ := HBr3.out
      go_wp2_with fail
      refine (HK1.out w3 HI3.out).mono ?_
      rintro e w4 ⟨x1, rfl, hi4, hc4, hb4⟩
      have HB4 := Lib.hid (bcall HB3.out hb4 HB3.out.size)
      have HI4 := Lib.hid (HI3.out.below hb4)
      have HBt4 := Lib.hid (HBt3.out.below hb4)
      have HBu4 := Lib.hid (HBu3.out.below hb4)
      have HBr4 := Lib.hid (HBr3.out.below hb4)
      have HBs4 := Lib.hid (HBs3.out.below hb4)
      have HX4 := Lib.hid hi4
      clear hb4 hi4 HI3 HB3 HBt3 HBu3 HBr3 HBs3 HK1 t0 t1 t2 t3 t4 tl r0 r1 rl
      obtain ⟨u0, u1, u2, u3, u4, ul⟩ := HBu4.out
      obtain ⟨s0, s1, sl⟩ := HBs4.out
      go_wp2_with fail
      refine (HK2.out w4 x1 HX4.out hc4).mono ?_
      rintro e w5 ⟨xa, rfl, hi5, hca, hb5⟩
      have HB5 := Lib.hid (bcall HB4.out hb5 HB4.out.size)
      have HI5 := Lib.hid (HI4.out.below hb5)
      have HBt5 := Lib.hid (HBt4.out.below hb5)
      have HBu5 := Lib.hid (HBu4.out.below hb5)
      have HBr5 := Lib.hid (HBr4.out.below hb5)
      have HBs5 := Lib.hid (HBs4.out.below hb5)
      have HXa5 := Lib.hid hi5
      clear hb5 hi5 HI4 HB4 HBt4 HBu4 HBr4 HBs4 HK2 HX4 hc4 u0 u1 u2 u3 u4 ul s0 s1 sl
      obtain ⟨u0, u1, u2, u3, u4, ul⟩ := HBu5.out
      obtain ⟨s0, s1, sl⟩ := HBs5.out
      go_wp2_with fail
      refine (HK3.out w5 HI5.out).mono ?_
      rintro e w6 ⟨x3, rfl, hi6, hc6, hb6⟩
      have HB6 := Lib.hid (bcall HB5.out hb6 HB5.out.size)
      have HBt6 := Lib.hid (HBt5.out.below hb6)
      have HBr6 := Lib.hid (HBr5.out.below hb6)
      have HXa6 := Lib.hid (HXa5.out.below hb6)
      have HX6 := Lib.hid hi6
      clear hb6 hi6 HI5 HB5 HBt5 HBu5 HBr5 HBs5 HK3 HXa5 u0 u1 u2 u3 u4 ul s0 s1 sl
      obtain ⟨t0, t1, t2, t3, t4, tl⟩ := HBt6.out
      obtain ⟨r0, r1, rl⟩ := HBr6.out
      go_wp2_with fail
      refine (HK4.out w6 x3 HX6.out hc6).mono ?_
      rintro e w7 ⟨xb, rfl, hi7, hcb, hb7⟩
      have HB7 := Lib.hid (bcall HB6.out hb7 HB6.out.size)
      have HXa7 := Lib.hid (HXa6.out.below hb7)
      have HXb7 := Lib.hid hi7
      clear hb7 hi7 HB6 HBt6 HBr6 HK4 HXa6 HX6 hc6 t0 t1 t2 t3 t4 tl r0 r1 rl
      have hPP : (P != P) = false := by cases P <;> rfl
      have hQQ : (Q != Q) = false := by cases Q <;> rfl
      obtain ⟨pa, ka, rfl⟩ := HXa7.out.slice
      obtain ⟨pb, kb, rfl⟩ := HXb7.out.slice
      have hlen := HO.out.1
      have hN : ca.length ≤ 200 := by have := HS3.out.1; omega
      have HNb : Hid (cb.length = ca.length) := hlen.symm
      have HT1a := Lib.hid (HT1.out w7 _ HXa7.out hca)
      have HT2a := Lib.hid (fun W hi => HT2.out W _ hi hcb)
      have HE := Lib.hid HO.out.2.2
      have HSa := Lib.hid HS3.out.2
      clear HT1 HT2 HO HS3 HS4 hca hcb hlen
      rw [HNb.out] at HT2a HXb7 ⊢
      generalize hNN : ca.length = N at *
      have HNa := Lib.hid hNN
      clear hNN
      go_upto_region 11 with (fail)
      go_wp2_with fail
      refine (HT1a.out).mono ?_
      rintro e w8 ⟨xt, rfl, hi8, hb8⟩
      have HB8 := Lib.hid (bcall HB7.out hb8 HB7.out.size)
      have HXa8 := Lib.hid (HXa7.out.below hb8)
      have HXb8 := Lib.hid (HXb7.out.below hb8)
      have HT8 := Lib.hid hi8
      have HT2b := Lib.hid (HT2a.out w8 HXb8.out)
      clear hb8 hi8 HB7 HXa7 HXb7 HT1a HT2a
      go_wp2_with fail
      refine (HT2b.out).mono ?_
      rintro e w9 ⟨yt, rfl, hi9, hb9⟩
      have HB9 := Lib.hid (bcall HB8.out hb9 HB8.out.size)
      have HXa9 := Lib.hid (HXa8.out.below hb9)
      have HXb9 := Lib.hid (HXb8.out.below hb9)
      have HSm := Lib.hid (same_any T T xt yt w9 HTl.out HTl.out (HT8.out.below hb9) hi9)
      rw [decide_eq_true rfl] at HSm
      clear hb9 hi9 HB8 HXa8 HXb8 HT2b HT8 HTl
      go_wp2_with fail
      refine (HSm.out).mono ?_
      rintro e w10 ⟨rfl, hb10⟩
      have HB10 := Lib.hid (bcall HB9.out hb10 HB9.out.size)
      have HXa := Lib.hid (HXa9.out.below hb10)
      have HXb := Lib.hid (HXb9.out.below hb10)
      clear hb10 HB9 HXa9 HXb9 HSm hPP hQQ
      go_wp2_with fail
      go_loopg [27] N (fun gg i wr => ∃ k : Nat, k ≤ N ∧ N - k ≤ gg ∧ i = .int .i64 (k : Int) ∧ Hid (Below w10.heap.size w10 wr))
      case atStart => exact ⟨0, Nat.zero_le _, by omega, rfl, Below.refl _ _⟩
      case round =>
        obtain ⟨k, hk, hg, rfl, HBk⟩ := hrel
        rename World => wk
        by_cases hlt : k < N
        · have hkz : (k : Int) < (N : Int) := by omega
          have hka : k < ca.length := by rw [HNa.out]; exact hlt
          have hkb : k < cb.length := by rw [HNb.out]; exact hlt
          obtain ⟨xs, hx0, hx1⟩ := HXa.out
          obtain ⟨ys, hy0, hy1⟩ := HXb.out
          obtain ⟨p', k', eq1, hox⟩ := isOpenedD hx0
          obtain ⟨q', j', eq2, hoy⟩ := isOpenedD hy0
          simp only [Value.slice.injEq] at eq1 eq2
          obtain ⟨rfl, hnx, rfl⟩ := eq1
          obtain ⟨rfl, hny, rfl⟩ := eq2
          obtain ⟨ba, oa, rfl, hba, hra⟩ := hox k (by rw [← hnx]; exact hlt)
          obtain ⟨bb, ob, rfl, hbb, hrb⟩ := hoy k (by rw [← hny]; exact hlt)
          obtain ⟨e0, e1, e2, e3, e4, e5, e6, e7, e8, e9⟩ := atSl (hra.below HBk.out hba) k (by rw [← hnx]; exact hlt)
          obtain ⟨f0, f1, f2, f3, f4, f5, f6, f7, f8, f9⟩ := atSl (hrb.below HBk.out hbb) k (by rw [← hny]; exact hlt)
          have hX := (hx1.2 k hka).below HBk.out
          have hY := (hy1.2 k hkb).below HBk.out
          obtain ⟨E1, E2, E3, E4⟩ := HE.out k hlt
          have hlen := HSa.out _ (show ca[k]! ∈ ca by rw [getElem!_pos ca k hka]; exact List.getElem_mem hka)
          have hxt := hX.t
          have hyt := hY.t
          rw [← E1] at hyt
          have hS0 : ∀ p : Beh wk, Calls Tryz.prog 26 #[.slice xs[k]!.p0 xs[k]!.n0 xs[k]!.c0, .slice ys[k]!.p0 ys[k]!.n0 ys[k]!.c0] p.w (Ret (.bool true) p.w) := fun p => by
            have q := rsame_any (ca[k]!).a (ca[k]!).a _ _ p.w (by omega) (by omega) (hX.l0.below p.h) ((E2 ▸ hY.l0 : RI.Is wk _ (ca[k]!).a).below p.h)
            rw [decide_eq_true rfl] at q
            exact q
          have hS1 : ∀ p : Beh wk, Calls Tryz.prog 26 #[.slice xs[k]!.p1 xs[k]!.n1 xs[k]!.c1, .slice ys[k]!.p1 ys[k]!.n1 ys[k]!.c1] p.w (Ret (.bool true) p.w) := fun p => by
            have q := rsame_any (ca[k]!).b (ca[k]!).b _ _ p.w (by omega) (by omega) (hX.l1.below p.h) ((E3 ▸ hY.l1 : RI.Is wk _ (ca[k]!).b).below p.h)
            rw [decide_eq_true rfl] at q
            exact q
          have hS2 : ∀ p : Beh wk, Calls Tryz.prog 26 #[.slice xs[k]!.p2 xs[k]!.n2 xs[k]!.c2, .slice ys[k]!.p2 ys[k]!.n2 ys[k]!.c2] p.w (Ret (.bool true) p.w) := fun p => by
            have q := rsame_any (ca[k]!).s (ca[k]!).s _ _ p.w (by omega) (by omega) (hX.l2.below p.h) ((E4 ▸ hY.l2 : RI.Is wk _ (ca[k]!).s).below p.h)
            rw [decide_eq_true rfl] at q
            exact q
          have HS0 := Lib.hid hS0
          have HS1 := Lib.hid hS1
          have HS2 := Lib.hid hS2
          have HBz : Hid (Below w.heap.size w wk) := bcall HB10.out HBk.out HB10.out.size
          rw [hxt] at e0 e1 e2 e3 e4
          rw [hyt] at f0 f1 f2 f3 f4
          generalize (ca[k]!).t = ct at *
          generalize xs[k]! = x at *
          generalize ys[k]! = y at *
          obtain ⟨xt, p0, n0, c0, p1, n1, c1, p2, n2, c2, xd, xf⟩ := x
          obtain ⟨yt, q0, m0, d0, q1, m1, d1, q2, m2, d2, yd, yf⟩ := y
          dsimp only at e5 e6 e7 f5 f6 f7 HS0 HS1 HS2
          clear hX hY hS0 hS1 hS2 hx0 hx1 hy0 hy1 hox hoy hra hrb E1 E2 E3 E4 hlen hxt hyt e8 e9 f8 f9 hnx hny hka hkb
          replace e0 := fun p => beh_cell e0 p
          replace e1 := fun p => beh_cell e1 p
          replace e2 := fun p => beh_cell e2 p
          replace e3 := fun p => beh_cell e3 p
          replace e4 := fun p => beh_cell e4 p
          replace e5 := fun p => beh_cell e5 p
          replace e6 := fun p => beh_cell e6 p
          replace e7 := fun p => beh_cell e7 p
          replace f0 := fun p => beh_cell f0 p
          replace f1 := fun p => beh_cell f1 p
          replace f2 := fun p => beh_cell f2 p
          replace f3 := fun p => beh_cell f3 p
          replace f4 := fun p => beh_cell f4 p
          replace f5 := fun p => beh_cell f5 p
          replace f6 := fun p => beh_cell f6 p
          replace f7 := fun p => beh_cell f7 p
          have hq : eqT ⟨ct.d, ct.c0, ct.c1, ct.c2, ct.c3⟩ ⟨ct.d, ct.c0, ct.c1, ct.c2, ct.c3⟩ = true := decide_eq_true rfl
          go_upto_region 16 with (fail)
          refine wp_region_beh (by kernel_rfl) (by kernel_rfl) ?_
          repeat (first | go_big_quiet_step (first | (with_reducible exact Calls.beh (HS0.out _)) | (with_reducible exact Calls.beh (HS1.out _)) | (with_reducible exact Calls.beh (HS2.out _))) | quiet_step (first | (with_reducible exact Calls.beh (HS0.out _)) | (with_reducible exact Calls.beh (HS1.out _)) | (with_reducible exact Calls.beh (HS2.out _))))
          refine wpQuiet_nil ?_
          intro _ hw'
          obtain ⟨g, hw''⟩ := hw'
          subst hw''
          have HBg := Lib.hid (HBk.out.trans (g.h.mono HBk.out.size))
          generalize g.w = wq at *
          clear g
          go_wp2_with fail
          go_roundg (N - (k + 1))
          case measure => omega
          case rel => exact ⟨k + 1, by omega, by omega, by go_num, HBg.out⟩
        · obtain rfl : k = N := by omega
          have HBz : Hid (Below w.heap.size w wk) := bcall HB10.out HBk.out HB10.out.size
          go_wp2
          go_returns
          exact ⟨rfl, HBz.out⟩
end Go.Proofs.YthomddbekiknjaaGreat
