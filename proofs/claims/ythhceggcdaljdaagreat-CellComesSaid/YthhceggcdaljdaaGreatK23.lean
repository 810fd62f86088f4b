/- CellComes' walk, where something is stale -/
import Derived.Test.YthhceggcdaljdaaGreatG29
import Derived.Test.YthhceggcdaljdaaGreatK01
import Derived.Test.YthhceggcdaljdaaGreatK22
import Derived.Test.YthhceggcdaljdaaGreatG07
import Derived.Deep.RegionHeldLaw
namespace Go.Proofs.YthhceggcdaljdaaGreat
open Go.RowKit
set_option linter.unusedVariables false
set_option linter.unusedSimpArgs false

theorem is_lit1 {W : World} {b : Nat} {x : SW} {o : SV} {t : TypeId} (e : W.heap[b]? = some (.cells (swRow x) t (0, 0))) (h : isSl W x o) : IsCl W (.slice (some ⟨b, 0, none⟩) 1 1) [o] := by
  refine ⟨[x], .inr ⟨by simp, b, 0, 1, rfl, (Array.getElem?_eq_some_iff.1 e).1, fun j hj i u hu => ?_⟩, rfl, fun i hi => ?_⟩
  · obtain rfl : j = 0 := by simpa using hj
    have hx : ([x] : List SW)[0]! = x := rfl
    rw [hx] at hu
    unfold World.cell?
    simp only [e, Nat.zero_mul, Nat.zero_add]
    show (swRow x)[i]? = some u
    have : (SW.enc x)[i]? = some u := hu
    rw [← this]
    show (SW.enc x).toArray[i]? = _
    simp
  · obtain rfl : i = 0 := by simpa using hi
    exact h
theorem heap_newS (W : World) (o : Obj) : ((W.alloc o).heap)[W.heap.size]? = some o := heap_alloc_new W o
theorem heap_oldS (W : World) (o p : Obj) : (((W.alloc o).alloc p).heap)[W.heap.size]? = some o := (Below.heap_alloc (W.alloc o) p _ (by rw [World.size_alloc]; omega)).trans (heap_alloc_new W o)
theorem heap_secondS (W : World) (o p : Obj) : (((W.alloc o).alloc p).heap)[W.heap.size + 1]? = some p := by
  have h := heap_alloc_new (W.alloc o) p
  rw [World.size_alloc] at h
  exact h
attribute [local go_sem ↓] eqTime neTime
set_option maxRecDepth 100000 in
set_option maxHeartbeats 32000000 in
theorem cellComes_some (c : List SV) (v : Value) (kind port : Int) (t : TV) (r : RV) (n : Int) (w : World) (h : IsCl w v c) (hs0 : staleL c ≠ []) : Calls Tryz.prog 3 #[v, .int .i64 kind, .int .i64 port, TV.val t, RV.val r, .int .i64 n] w (Ret (.bool true) w) := by
  have HC := Lib.hid h
  have HS0 := Lib.hid hs0
  clear hs0
  obtain ⟨xs, hx0, hx1⟩ := h
  have hxn : xs.length = c.length := hx1.1
  obtain ⟨pv, kv, rfl⟩ := hx0.slice
  have hb0 := ((Below.refl w.heap.size w).alloc (Nat.le_refl _) (.cells #[.int .i64 t.d, .int .i64 t.c0, .int .i64 t.c1, .int .i64 t.c2, .int .i64 t.c3] 25)).alloc (by simp) (.cells #[.int .i64 r.k, .int .i64 r.v] 27)
  have hbt := (BT5.new w t).more (.cells #[.int .i64 r.k, .int .i64 r.v] 27)
  have hbr := BR2.new (w.alloc (.cells #[.int .i64 t.d, .int .i64 t.c0, .int .i64 t.c1, .int .i64 t.c2, .int .i64 t.c3] 25)) r
  rw [World.size_alloc] at hbr
  obtain ⟨rk, rv⟩ := r
  obtain ⟨td, t0, t1, t2, t3⟩ := t
  dsimp only at hb0 hbt hbr
  have HI0 := Lib.hid (hx0.below hb0)
  have HA0 := Lib.hid (hx1.below hb0)
  have HC0 := Lib.hid (HC.out.below hb0)
  rw [hxn] at HI0 HC0 ⊢
  clear hx0 hx1 HC
  go_enter Tryz.func3, Tryz.ntmps3
  go_upto_region 1 with (fail)
  generalize (w.alloc (.cells #[.int .i64 td, .int .i64 t0, .int .i64 t1, .int .i64 t2, .int .i64 t3] 25)).alloc (.cells #[.int .i64 rk, .int .i64 rv] 27) = w0 at *
  have HB0 := Lib.hid hb0
  have HBt := Lib.hid hbt
  have HBr := Lib.hid hbr
  clear hb0 hbt hbr
  have HAw := Lib.hid (cawake_any w0)
  generalize hbtE : w.heap.size = bt at *
  have HW := Lib.hid hbtE
  clear hbtE
  go_wp2_with fail
  refine (HAw.out).mono ?_
  rintro e w1 ⟨rfl, hb1⟩
  have HB1 := Lib.hid hb1
  have HSh := Lib.hid (cshort_any c _ w1 (HC0.out.below hb1))
  have HbB : Hid (bt ≤ w0.heap.size) := Nat.le_of_lt HBt.out.l
  have HBw : Hid (∀ W, Below w0.heap.size w0 W → Below bt w W) := fun W hW => HB0.out.trans (hW.mono HbB.out)
  clear hb1 HAw
  generalize hsh : shortC c = sh at *
  go_wp2_with fail
  refine (HSh.out).mono ?_
  rintro e w2 ⟨rfl, hb2⟩
  have HB2 := Lib.hid (bcall HB1.out hb2 HB1.out.size)
  clear hb2 HSh HB1
  cases sh
  · have HX := Lib.hid (HBw.out _ HB2.out)
    go_wp2
    go_returns
    exact ⟨rfl, by rw [HW.out]; exact HX.out⟩
  · have hs40 := shortC_small hsh
    have HS1 := Lib.hid (hs40.mono (show 40 ≤ 100000 by decide))
    have HS9 := Lib.hid (hs40.mono (show 40 ≤ 900000 by decide))
    have hlen : c.length ≤ 40 := hs40.1
    have HO0 : Hid (RSl.Own w2.heap.size (w2.alloc (.cells #[] 40)) (.slice (some ⟨w2.heap.size, 0, none⟩) 0 0) []) := World.ownsRow_made w2 #[] 0 (Nat.le_refl _) (Nat.zero_le _) rfl
    have HBa := Lib.hid ((Below.refl w2.heap.size w2).alloc (Nat.le_refl _) (.cells #[] 40))
    have HZa := Lib.hid HBa.out.size
    have HIa := Lib.hid ((HI0.out.below HB2.out).below HBa.out)
    have HLn : Hid (([] : List SW).length + xs.length ≤ 1000000) := by rw [Hid, List.length_nil, hxn]; omega
    clear hsh hs40 hxn
    go_upto_region 6 with (at_builtin; refine RowKind.Own.appendAny (R := RSl) (ys := xs) HO0.out HBa.out HZa.out rfl _ _ rfl rfl rfl HIa.out HLn.out ?_; intro v3 w3 hO3 hB3 hz3)
    have HB3 := Lib.hid (bcall HB2.out hB3 HB2.out.size)
    have HM3 : Hid (IsCl w3 v3 c) := ⟨xs, hO3.is, (HA0.out.below HB2.out).below hB3⟩
    have hsl : ∃ p k, v3 = .slice p c.length k := HM3.out.slice
    obtain ⟨pm, km, rfl⟩ := hsl
    have HC3 := Lib.hid (HC0.out.below HB3.out)
    have HK1 := Lib.hid (pcome_any c _ kind port ⟨td, t0, t1, t2, t3⟩ ⟨rk, rv⟩ n w3 HS1.out HM3.out)
    obtain ⟨z0, z1, z2, z3, z4, zl⟩ := HBt.out.below HB3.out
    obtain ⟨r0, r1, rl⟩ := HBr.out.below HB3.out
    dsimp only at z0 z1 z2 z3 z4 r0 r1
    clear hO3 hB3 hz3 HO0 HBa HZa HIa HLn HI0 HA0 HB2
    go_wp2_with fail
    refine (HK1.out).mono ?_
    rintro e w4 ⟨va, rfl, hia, hca, hb4⟩
    have HB4 := Lib.hid (bcall HB3.out hb4 HB3.out.size)
    have HM4 := Lib.hid (HM3.out.below hb4)
    have HC4 := Lib.hid (HC3.out.below hb4)
    have HIa := Lib.hid hia
    have HK2 := Lib.hid (rcome_any c _ kind port ⟨td, t0, t1, t2, t3⟩ ⟨rk, rv⟩ n w4 HS1.out HC4.out)
    obtain ⟨pa, ka, rfl⟩ := hia.slice
    clear z0 z1 z2 z3 z4 zl r0 r1 rl hia hca hb4 HK1 HB3 HM3 HC3
    obtain ⟨z0, z1, z2, z3, z4, zl⟩ := HBt.out.below HB4.out
    obtain ⟨r0, r1, rl⟩ := HBr.out.below HB4.out
    dsimp only at z0 z1 z2 z3 z4 r0 r1
    go_wp2_with fail
    refine (HK2.out).mono ?_
    rintro e w5 ⟨vb, rfl, hib, hcb, hb5⟩
    have HB5 := Lib.hid (bcall HB4.out hb5 HB4.out.size)
    have HM5 := Lib.hid (HM4.out.below hb5)
    have HC5 := Lib.hid (HC4.out.below hb5)
    have HIa5 := Lib.hid (HIa.out.below hb5)
    have HIb5 := Lib.hid hib
    have hsd : SmallC 900000 (comeF c kind port ⟨td, t0, t1, t2, t3⟩ ⟨rk, rv⟩ n) := (small_come HS1.out kind port _ _ n).mono (by decide)
    have HSd := Lib.hid hsd
    obtain ⟨pb, kb, rfl⟩ := hib.slice
    have HR1 := Lib.hid (prightC_any c _ w5 HS9.out HM5.out)
    clear z0 z1 z2 z3 z4 zl r0 r1 rl hib hcb hb5 HK2 HB4 HM4 HC4 HIa hsd
    generalize comeF c kind port ⟨td, t0, t1, t2, t3⟩ ⟨rk, rv⟩ n = cd at *
    generalize lateS c kind port ⟨td, t0, t1, t2, t3⟩ n = lt at *
    generalize comeOk c port ⟨td, t0, t1, t2, t3⟩ n = ck at *
    have hll : (lt != lt) = false := by cases lt <;> rfl
    have hkk : (ck != ck) = false := by cases ck <;> rfl
    have hrr : (rightSl c != rightSl c) = false := by cases rightSl c <;> rfl
    go_wp2_with fail
    refine (HR1.out).mono ?_
    rintro e w6 ⟨rfl, hb6⟩
    have HB6 := Lib.hid (bcall HB5.out hb6 HB5.out.size)
    have HM6 := Lib.hid (HM5.out.below hb6)
    have HC6 := Lib.hid (HC5.out.below hb6)
    have HIa6 := Lib.hid (HIa5.out.below hb6)
    have HIb6 := Lib.hid (HIb5.out.below hb6)
    have HR2 := Lib.hid (rrightC_any c _ w6 HS9.out HC6.out)
    clear hb6 HR1 HB5 HM5 HC5 HIa5 HIb5
    go_wp2_with fail
    refine (HR2.out).mono ?_
    rintro e w7 ⟨rfl, hb7⟩
    have HB7 := Lib.hid (bcall HB6.out hb7 HB6.out.size)
    have HM7 := Lib.hid (HM6.out.below hb7)
    have HC7 := Lib.hid (HC6.out.below hb7)
    have HSm := Lib.hid (rsameC_any cd _ _ w7 HSd.out (HIa6.out.below hb7) (HIb6.out.below hb7))
    clear hb7 HR2 HB6 HM6 HC6 HIa6 HIb6
    go_wp2_with fail
    refine (HSm.out).mono ?_
    rintro e w8 ⟨rfl, hb8⟩
    have HB8 := Lib.hid (bcall HB7.out hb8 HB7.out.size)
    have HM8 := Lib.hid (HM7.out.below hb8)
    have HC8 := Lib.hid (HC7.out.below hb8)
    have HSm2 := Lib.hid (rsameC_any c _ _ w8 HS9.out HM8.out HC8.out)
    clear hb8 HSm HB7 HM7 HC7
    go_wp2_with fail
    refine (HSm2.out).mono ?_
    rintro e w9 ⟨rfl, hb9⟩
    have HB9 := Lib.hid (bcall HB8.out hb9 HB8.out.size)
    have HM9 := Lib.hid (HM8.out.below hb9)
    have HC9 := Lib.hid (HC8.out.below hb9)
    have HSt := Lib.hid (rstale_any c _ w9 HS9.out HC9.out)
    clear hb9 HSm2 HB8 HM8 HC8 hll hkk hrr
    go_wp2_with fail
    refine (HSt.out).mono ?_
    rintro e w10 ⟨vl, rfl, hol, hb10⟩
    have HB10 := Lib.hid (bcall HB9.out hb10 HB9.out.size)
    have HM10 := Lib.hid (HM9.out.below hb10)
    have HC10 := Lib.hid (HC9.out.below hb10)
    have HL10 : Hid (IsT w10 vl (staleL c)) := hol.is
    have HNx := Lib.hid (pnext_any c _ w10 HS9.out HM10.out)
    obtain ⟨pl, kl, rfl⟩ := HL10.out.slice
    have HLl : Hid ((staleL c).length ≤ 40) := Nat.le_trans (staleL_len c) hlen
    clear hb10 hol HSt HB9 HM9 HC9
    go_wp2_with fail
    refine (HNx.out).mono ?_
    rintro e w11 ⟨x, rfl, hxl, hb11⟩
    have HXl := Lib.hid hxl
    obtain ⟨x0, x1, x2, x3, x4⟩ := x
    have HB11 := Lib.hid (bcall HB10.out hb11 HB10.out.size)
    have HM11 := Lib.hid (HM10.out.below hb11)
    have HC11 := Lib.hid (HC10.out.below hb11)
    have HL11 := Lib.hid (HL10.out.below hb11)
    clear hb11 hxl HNx HB10 HM10 HC10 HL10
    go_upto_region 12 with (fail)
    refine gen_world (fun W => Below w11.heap.size w11 W ∧ BT5 W w11.heap.size ⟨x0, x1, x2, x3, x4⟩) ⟨by first | exact (Below.refl _ _).alloc (Nat.le_refl _) _ | go_grown, by first | exact BT5.new _ ⟨x0, x1, x2, x3, x4⟩ | skip⟩ ?_
    rintro w12 ⟨hb12, hx12⟩
    have HB12 := Lib.hid (bcall HB11.out hb12 HB11.out.size)
    have HM12 := Lib.hid (HM11.out.below hb12)
    have HC12 := Lib.hid (HC11.out.below hb12)
    have HL12 := Lib.hid (HL11.out.below hb12)
    have HF12 := Lib.hid hx12
    have HAt := Lib.hid (pat_any c _ ⟨td, t0, t1, t2, t3⟩ w12 HS9.out HM12.out)
    generalize w11.heap.size = bf at *
    clear hb12 hx12 HB11 HM11 HC11 HL11
    obtain ⟨z0, z1, z2, z3, z4, zl⟩ := HBt.out.below HB12.out
    dsimp only at z0 z1 z2 z3 z4
    go_wp2_with fail
    refine (HAt.out).mono ?_
    rintro e w13 ⟨s, rfl, his, hb13⟩
    have HB13 := Lib.hid (bcall HB12.out hb13 HB12.out.size)
    have HM13 := Lib.hid (HM12.out.below hb13)
    have HC13 := Lib.hid (HC12.out.below hb13)
    have HL13 := Lib.hid (HL12.out.below hb13)
    have HF13 := Lib.hid (HF12.out.below hb13)
    have HIs := Lib.hid his
    obtain ⟨⟨s0, s1, s2, s3, s4⟩, sp0, sn0, sc0, sp1, sn1, sc1, sp2, sn2, sc2, sd, sf⟩ := s
    clear hb13 his HAt HB12 HM12 HC12 HL12 HF12 z0 z1 z2 z3 z4 zl
    go_upto_region 13 with (fail)
    refine gen_world (fun W => Below w13.heap.size w13 W ∧ Boxed W w13.heap.size #[.int .i64 s0, .int .i64 s1, .int .i64 s2, .int .i64 s3, .int .i64 s4, .slice sp0 sn0 sc0, .slice sp1 sn1 sc1, .slice sp2 sn2 sc2, .bool sd, .bool sf] 40) ⟨by first | exact (Below.refl _ _).alloc (Nat.le_refl _) _ | go_grown, by first | exact heap_alloc_new _ _ | skip⟩ ?_
    rintro w14 ⟨hb14, hx14⟩
    have HB14 := Lib.hid (bcall HB13.out hb14 HB13.out.size)
    have HM14 := Lib.hid (HM13.out.below hb14)
    have HC14 := Lib.hid (HC13.out.below hb14)
    have HL14 := Lib.hid (HL13.out.below hb14)
    have HF14 := Lib.hid (HF13.out.below hb14)
    have HIs14 := Lib.hid (HIs.out.below hb14)
    have HX14 := Lib.hid hx14
    have HAt := Lib.hid (rat_any c _ ⟨td, t0, t1, t2, t3⟩ w14 HS9.out HC14.out)
    generalize w13.heap.size = bs at *
    clear hb14 hx14 HB13 HM13 HC13 HL13 HF13 HIs
    obtain ⟨z0, z1, z2, z3, z4, zl⟩ := HBt.out.below HB14.out
    dsimp only at z0 z1 z2 z3 z4
    go_wp2_with fail
    refine (HAt.out).mono ?_
    rintro e w15 ⟨u, rfl, hiu, hb15⟩
    have HB15 := Lib.hid (bcall HB14.out hb15 HB14.out.size)
    have HM15 := Lib.hid (HM14.out.below hb15)
    have HL15 := Lib.hid (HL14.out.below hb15)
    have HF15 := Lib.hid (HF14.out.below hb15)
    have HIs15 := Lib.hid (HIs14.out.below hb15)
    have HX15 := Lib.hid (HX14.out.below hb15 HX14.out.lt)
    have HIu := Lib.hid hiu
    obtain ⟨⟨u0, u1, u2, u3, u4⟩, up0, un0, uc0, up1, un1, uc1, up2, un2, uc2, ud, uf⟩ := u
    clear hb15 hiu HAt HB14 HM14 HC14 HL14 HF14 HIs14 HX14 z0 z1 z2 z3 z4 zl
    go_upto_region 14 with (fail)
    refine gen_world (fun W => Below w15.heap.size w15 W ∧ Boxed W w15.heap.size #[.int .i64 u0, .int .i64 u1, .int .i64 u2, .int .i64 u3, .int .i64 u4, .slice up0 un0 uc0, .slice up1 un1 uc1, .slice up2 un2 uc2, .bool ud, .bool uf] 40) ⟨by first | exact (Below.refl _ _).alloc (Nat.le_refl _) _ | go_grown, by first | exact heap_alloc_new _ _ | skip⟩ ?_
    rintro w16 ⟨hb16, hx16⟩
    have HB16 := Lib.hid (bcall HB15.out hb16 HB15.out.size)
    have HM16 := Lib.hid (HM15.out.below hb16)
    have HL16 := Lib.hid (HL15.out.below hb16)
    have HF16 := Lib.hid (HF15.out.below hb16)
    have HIs16 := Lib.hid (HIs15.out.below hb16)
    have HIu16 := Lib.hid (HIu.out.below hb16)
    have HXs16 := Lib.hid (HX15.out.below hb16 HX15.out.lt)
    have HXu16 := Lib.hid hx16
    generalize w15.heap.size = bu at *
    clear hb16 hx16 HB15 HM15 HL15 HF15 HIs15 HX15 HIu
    have HStl : Hid (∀ W, Below w16.heap.size w16 W → Calls Tryz.prog 20 #[.slice pm c.length km] W (fun e W' => ∃ u, e = .returned u ∧ OwnTT W.heap.size W' u (staleL c) ∧ Below W.heap.size W W')) := fun W hW => pstale_any c _ W HS9.out (HM16.out.below hW)
    have HSt3 := Lib.hid (fun W (hW : Below w16.heap.size w16 W) va (hi : IsT W va (staleL c)) => same_any (staleL c) (staleL c) va _ W (by have := HLl.out; omega) (by have := HLl.out; omega) hi (HL16.out.below hW))
    rw [decide_eq_true rfl] at HSt3
    have hsm1 : SmallC 900000 [atV c ⟨td, t0, t1, t2, t3⟩] := by
      refine ⟨by show 1 ≤ 900000; decide, fun x hx => ?_⟩
      rw [List.mem_singleton.1 hx]
      unfold atV
      split
      · cases e : lookS c ⟨td, t0, t1, t2, t3⟩ with
        | none => exact ⟨Nat.zero_le _, Nat.zero_le _, Nat.zero_le _⟩
        | some y => exact HS9.out.2 y (lookS_mem e).1
      · exact ⟨Nat.zero_le _, Nat.zero_le _, Nat.zero_le _⟩
    have HS15 : Hid (∀ W b1 b2, Below w16.heap.size w16 W → W.heap[b1]? = some (.cells #[.int .i64 s0, .int .i64 s1, .int .i64 s2, .int .i64 s3, .int .i64 s4, .slice sp0 sn0 sc0, .slice sp1 sn1 sc1, .slice sp2 sn2 sc2, .bool sd, .bool sf] 40 (0, 0)) → W.heap[b2]? = some (.cells #[.int .i64 u0, .int .i64 u1, .int .i64 u2, .int .i64 u3, .int .i64 u4, .slice up0 un0 uc0, .slice up1 un1 uc1, .slice up2 un2 uc2, .bool ud, .bool uf] 40 (0, 0)) → Calls Tryz.prog 14 #[.slice (some ⟨b1, 0, none⟩) 1 1, .slice (some ⟨b2, 0, none⟩) 1 1] W (Ret (.bool true) W)) := fun W b1 b2 hW h1 h2 => rsameC_any [atV c ⟨td, t0, t1, t2, t3⟩] _ _ W hsm1 (is_lit1 (x := ⟨⟨s0, s1, s2, s3, s4⟩, sp0, sn0, sc0, sp1, sn1, sc1, sp2, sn2, sc2, sd, sf⟩) h1 (HIs16.out.below hW)) (is_lit1 (x := ⟨⟨u0, u1, u2, u3, u4⟩, up0, un0, uc0, up1, un1, uc1, up2, un2, uc2, ud, uf⟩) h2 (HIu16.out.below hW))
    generalize isAt c ⟨td, t0, t1, t2, t3⟩ = ia at *
    have hii : (ia == ia) = true := by cases ia <;> rfl
    have HE : Hid (∀ W, Below w16.heap.size w16 W → Below bt w W) := fun W hW => HBw.out W (HB16.out.trans (hW.mono HB16.out.size))
    clear hsm1 HS1 HS9 HBw HB16 HM16 HIs16 HIu16 HSd hlen
    have HOp := HL16.out
    generalize staleL c = sl at *
    rcases HOp with ⟨hsl0, pu2, cu2, heq2, _⟩ | ⟨hne, b, off, cap, heq2, hb, hr⟩
    · exact absurd hsl0 HS0.out
    · simp only [Value.slice.injEq, true_and] at heq2
      obtain ⟨rfl, rfl⟩ := heq2
      have h0 : 0 < sl.length := List.length_pos_iff.2 hne
      have hx := HXl.out h0
      have hz : decide (0 < (sl.length : Int)) = true := decide_eq_true (by omega)
      have hz0 : decide (0 < sl.length) = true := decide_eq_true h0
      have hz2 : (0 : Int) < (sl.length : Int) := by omega
      have hl40 := HLl.out
      have HRl := Lib.hid (fun W (hW : Below w16.heap.size w16 W) => RowT.at (hr.below hW hb) 0 h0)
      simp only [Nat.zero_mul, Nat.add_zero] at HRl
      rw [← hx] at HRl
      dsimp only at HRl
      have heq : eqT ⟨x0, x1, x2, x3, x4⟩ ⟨x0, x1, x2, x3, x4⟩ = true := eqT_self _
      clear hne hx hr
      rw [hz0]
      have HK : Hid (∀ W, Below w16.heap.size w16 W → W.cell? ⟨bs, 0, none⟩ = some (.int .i64 s0) ∧ W.cell? ⟨bs, 1, none⟩ = some (.int .i64 s1) ∧ W.cell? ⟨bs, 2, none⟩ = some (.int .i64 s2) ∧ W.cell? ⟨bs, 3, none⟩ = some (.int .i64 s3) ∧ W.cell? ⟨bs, 4, none⟩ = some (.int .i64 s4) ∧ W.cell? ⟨bs, 5, none⟩ = some (.slice sp0 sn0 sc0) ∧ W.cell? ⟨bs, 6, none⟩ = some (.slice sp1 sn1 sc1) ∧ W.cell? ⟨bs, 7, none⟩ = some (.slice sp2 sn2 sc2) ∧ W.cell? ⟨bs, 8, none⟩ = some (.bool sd) ∧ W.cell? ⟨bs, 9, none⟩ = some (.bool sf) ∧ W.cell? ⟨bu, 0, none⟩ = some (.int .i64 u0) ∧ W.cell? ⟨bu, 1, none⟩ = some (.int .i64 u1) ∧ W.cell? ⟨bu, 2, none⟩ = some (.int .i64 u2) ∧ W.cell? ⟨bu, 3, none⟩ = some (.int .i64 u3) ∧ W.cell? ⟨bu, 4, none⟩ = some (.int .i64 u4) ∧ W.cell? ⟨bu, 5, none⟩ = some (.slice up0 un0 uc0) ∧ W.cell? ⟨bu, 6, none⟩ = some (.slice up1 un1 uc1) ∧ W.cell? ⟨bu, 7, none⟩ = some (.slice up2 un2 uc2) ∧ W.cell? ⟨bu, 8, none⟩ = some (.bool ud) ∧ W.cell? ⟨bu, 9, none⟩ = some (.bool uf) ∧ W.cell? ⟨bf, 0, none⟩ = some (.int .i64 x0) ∧ W.cell? ⟨bf, 1, none⟩ = some (.int .i64 x1) ∧ W.cell? ⟨bf, 2, none⟩ = some (.int .i64 x2) ∧ W.cell? ⟨bf, 3, none⟩ = some (.int .i64 x3) ∧ W.cell? ⟨bf, 4, none⟩ = some (.int .i64 x4) ∧ W.cell? ⟨b, off, none⟩ = some (.int .i64 x0) ∧ W.cell? ⟨b, off + 1, none⟩ = some (.int .i64 x1) ∧ W.cell? ⟨b, off + 2, none⟩ = some (.int .i64 x2) ∧ W.cell? ⟨b, off + 3, none⟩ = some (.int .i64 x3) ∧ W.cell? ⟨b, off + 4, none⟩ = some (.int .i64 x4)) := fun W hW => ⟨(HXs16.out.below hW HXs16.out.lt).cell 0, (HXs16.out.below hW HXs16.out.lt).cell 1, (HXs16.out.below hW HXs16.out.lt).cell 2, (HXs16.out.below hW HXs16.out.lt).cell 3, (HXs16.out.below hW HXs16.out.lt).cell 4, (HXs16.out.below hW HXs16.out.lt).cell 5, (HXs16.out.below hW HXs16.out.lt).cell 6, (HXs16.out.below hW HXs16.out.lt).cell 7, (HXs16.out.below hW HXs16.out.lt).cell 8, (HXs16.out.below hW HXs16.out.lt).cell 9, (HXu16.out.below hW HXu16.out.lt).cell 0, (HXu16.out.below hW HXu16.out.lt).cell 1, (HXu16.out.below hW HXu16.out.lt).cell 2, (HXu16.out.below hW HXu16.out.lt).cell 3, (HXu16.out.below hW HXu16.out.lt).cell 4, (HXu16.out.below hW HXu16.out.lt).cell 5, (HXu16.out.below hW HXu16.out.lt).cell 6, (HXu16.out.below hW HXu16.out.lt).cell 7, (HXu16.out.below hW HXu16.out.lt).cell 8, (HXu16.out.below hW HXu16.out.lt).cell 9, (HF16.out.below hW).c0, (HF16.out.below hW).c1, (HF16.out.below hW).c2, (HF16.out.below hW).c3, (HF16.out.below hW).c4, (HRl.out W hW).1, (HRl.out W hW).2.1, (HRl.out W hW).2.2.1, (HRl.out W hW).2.2.2.1, (HRl.out W hW).2.2.2.2⟩
      obtain ⟨s_0, s_1, s_2, s_3, s_4, s_5, s_6, s_7, s_8, s_9, u_0, u_1, u_2, u_3, u_4, u_5, u_6, u_7, u_8, u_9, f_0, f_1, f_2, f_3, f_4, l_0, l_1, l_2, l_3, l_4⟩ := HK.out w16 (Below.refl _ _)
      have hzs : bs < w16.heap.size := HXs16.out.lt
      have hzu : bu < w16.heap.size := HXu16.out.lt
      clear HF16 HXs16 HXu16 HL16
      go_region_held_law (fun W => W.cell? ⟨bs, 0, none⟩ = some (.int .i64 s0) ∧ W.cell? ⟨bs, 1, none⟩ = some (.int .i64 s1) ∧ W.cell? ⟨bs, 2, none⟩ = some (.int .i64 s2) ∧ W.cell? ⟨bs, 3, none⟩ = some (.int .i64 s3) ∧ W.cell? ⟨bs, 4, none⟩ = some (.int .i64 s4) ∧ W.cell? ⟨bs, 5, none⟩ = some (.slice sp0 sn0 sc0) ∧ W.cell? ⟨bs, 6, none⟩ = some (.slice sp1 sn1 sc1) ∧ W.cell? ⟨bs, 7, none⟩ = some (.slice sp2 sn2 sc2) ∧ W.cell? ⟨bs, 8, none⟩ = some (.bool sd) ∧ W.cell? ⟨bs, 9, none⟩ = some (.bool sf) ∧ W.cell? ⟨bu, 0, none⟩ = some (.int .i64 u0) ∧ W.cell? ⟨bu, 1, none⟩ = some (.int .i64 u1) ∧ W.cell? ⟨bu, 2, none⟩ = some (.int .i64 u2) ∧ W.cell? ⟨bu, 3, none⟩ = some (.int .i64 u3) ∧ W.cell? ⟨bu, 4, none⟩ = some (.int .i64 u4) ∧ W.cell? ⟨bu, 5, none⟩ = some (.slice up0 un0 uc0) ∧ W.cell? ⟨bu, 6, none⟩ = some (.slice up1 un1 uc1) ∧ W.cell? ⟨bu, 7, none⟩ = some (.slice up2 un2 uc2) ∧ W.cell? ⟨bu, 8, none⟩ = some (.bool ud) ∧ W.cell? ⟨bu, 9, none⟩ = some (.bool uf) ∧ W.cell? ⟨bf, 0, none⟩ = some (.int .i64 x0) ∧ W.cell? ⟨bf, 1, none⟩ = some (.int .i64 x1) ∧ W.cell? ⟨bf, 2, none⟩ = some (.int .i64 x2) ∧ W.cell? ⟨bf, 3, none⟩ = some (.int .i64 x3) ∧ W.cell? ⟨bf, 4, none⟩ = some (.int .i64 x4) ∧ W.cell? ⟨b, off, none⟩ = some (.int .i64 x0) ∧ W.cell? ⟨b, off + 1, none⟩ = some (.int .i64 x1) ∧ W.cell? ⟨b, off + 2, none⟩ = some (.int .i64 x2) ∧ W.cell? ⟨b, off + 3, none⟩ = some (.int .i64 x3) ∧ W.cell? ⟨b, off + 4, none⟩ = some (.int .i64 x4)) (first | (with_reducible exact HK.out _ (by assumption)) | go_keep) (first
        | (go_at_call 20; refine (HStl.out _ (by repeat' (first | exact Below.refl _ _ | apply Below.drew | apply below_drewN))).mono ?_; rintro e wa ⟨va, rfl, hOa, hba⟩; have hIa := hOa.is; obtain ⟨p9, k9, rfl⟩ := hIa.slice; have hB1 : Below w16.heap.size w16 wa := bcall (by repeat' (first | exact Below.refl _ _ | apply Below.drew | apply below_drewN)) hba (Nat.le_refl _))
        | (go_at_call 19; refine (HSt3.out wa hB1 _ hIa).mono ?_; rintro e wb ⟨rfl, hbb⟩; have hB2 : Below w16.heap.size w16 wb := bcall hB1 hbb hB1.size)
        | (go_at_call 14; refine (HS15.out _ _ _ (by repeat' (first | exact hB2 | (refine Below.alloc ?_ (by have := hB2.size; first | omega | (simp only [World.size_alloc]; omega) | (simp; omega)) _) | apply Below.drew | apply below_drewN)) (by first | exact heap_newS _ _ | exact heap_oldS _ _ _ | exact heap_secondS _ _ _) (by first | exact heap_newS _ _ | exact heap_oldS _ _ _ | exact heap_secondS _ _ _)).mono ?_; rintro e wc ⟨rfl, hbc⟩; have hB3 : Below w16.heap.size w16 wc := bcall (by repeat' (first | exact hB2 | (refine Below.alloc ?_ (by have := hB2.size; first | omega | (simp only [World.size_alloc]; omega) | (simp; omega)) _) | apply Below.drew | apply below_drewN)) hbc (by have := hB2.size; first | omega | (simp only [World.size_alloc]; omega) | (simp; omega))))
      all_goals
        try simp only [List.getElem_toArray, List.getElem_cons_succ, List.getElem_cons_zero, Act.put, List.setIfInBounds_toArray, List.set_cons_zero, List.set_cons_succ]
        have HX := Lib.hid (HE.out _ hB3)
        go_wp2
        go_returns
        exact ⟨rfl, by rw [HW.out]; exact HX.out⟩
end Go.Proofs.YthhceggcdaljdaaGreat
