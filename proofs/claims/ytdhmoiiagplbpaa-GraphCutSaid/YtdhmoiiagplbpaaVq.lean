/- the document's Read: the walk behind the first bytes -/
import Derived.Test.YtdhmoiiagplbpaaVo
import Derived.Test.YtdhmoiiagplbpaaVp
import Derived.Deep.RegionLaw
import Derived.Deep.CutRange
import Derived.Test.YtdhmoiiagplbpaaVr
namespace Go.Proofs.Ytdhmoiiagplbpaa
open Go.RowKit
set_option linter.unusedVariables false
set_option linter.unusedSimpArgs false

theorem gs_init (w : World) (b off n c : Nat) : GS w.heap.size (w.heap.size + 5) (w.heap.size + 2) w.heap.size ((((((w.alloc (.cells #[.slice none 0 0, .slice none 0 0, .slice none 0 0, .slice none 0 0] 26)).alloc (.cells #[.int .u8 66, .int .u8 87, .int .u8 49] 5 (3, 4))).alloc (.cells #[.slice (some ⟨b, off, none⟩) n c, .int .i64 3, .int .i64 0] 72)).alloc (.cells #[.int .i64 (-1)] 3)).alloc (.cells #[.int .i64 0] 3)).alloc (.cells #[.slice (some ⟨w.heap.size + 3, 0, none⟩) 1 1, .slice (some ⟨w.heap.size + 4, 0, none⟩) 1 1, .slice none 0 0, .slice none 0 0] 26)) (.slice (some ⟨b, off, none⟩) n c) (.slice (some ⟨w.heap.size + 3, 0, none⟩) 1 1) (.slice (some ⟨w.heap.size + 4, 0, none⟩) 1 1) (.slice none 0 0) (.slice none 0 0) [-1] [0] [] [] [] 3 0 := by
  have hs : ∀ (W : World) (o : Obj) (k : Nat), k = W.heap.size → (W.alloc o).heap[k]? = some o := fun W o k e => by rw [e]; exact heap_alloc_new W o
  have hk : ∀ (W : World) (o : Obj) (k : Nat) (x : Obj), W.heap[k]? = some x → (W.alloc o).heap[k]? = some x := fun W o k x h => (Below.heap_alloc W o k (Array.getElem?_eq_some_iff.1 h).1).trans h
  refine ⟨hs _ _ _ (by simp), hk _ _ _ _ (hk _ _ _ _ (hk _ _ _ _ (hs _ _ _ (by simp)))), hk _ _ _ _ (hk _ _ _ _ (hk _ _ _ _ (hk _ _ _ _ (hk _ _ _ _ (hs _ _ _ rfl))))), by omega, ?_, ?_, fun k h1 h2 => ?_, RowKind.Own.nil RW _ _, rfl, fun i hi => absurd hi (by simp), RowKind.Own.nil RE _ _, by omega, by omega⟩
  · exact ⟨rfl, .inr ⟨w.heap.size + 3, 1, #[.int .i64 (-1)], rfl, by omega, hk _ _ _ _ (hk _ _ _ _ (hs _ _ _ (by simp))), by decide, by decide, rfl, rfl⟩⟩
  · exact ⟨rfl, .inr ⟨w.heap.size + 4, 1, #[.int .i64 0], rfl, by omega, hk _ _ _ _ (hs _ _ _ (by simp)), by decide, by decide, rfl, rfl⟩⟩
  · have e1 : w.heap.size + 3 = k := Option.some.inj h1
    have e2 : w.heap.size + 4 = k := Option.some.inj h2
    omega
/-- what Read answers -/
def ReadR (xs : List Int) (w : World) (e : Ending) (w' : World) : Prop :=
  Below w.heap.size w w' ∧ ((∃ g gv, readG xs = .ok g ∧ e = .returned (.tuple #[gv, .int .i64 0]) ∧ IsG w' gv g) ∨ (∃ er : Nat, readG xs = .error er ∧ er ≠ 0 ∧ er ≤ 100 ∧ e = .returned (.tuple #[noG, .int .i64 (er : Int)])))
set_option maxRecDepth 100000 in
set_option maxHeartbeats 32000000 in
theorem rread_main (xs : List Int) (b off c : Nat) (w : World) (hb : b < w.heap.size) (hr : RB.Row w b off xs) (hc : xs.length ≤ c) (hx : okB xs) (hl : xs.length ≤ 8192) (h3 : 3 ≤ xs.length) (g0 : xs[0]! = 66) (g1 : xs[1]! = 87) (g2 : xs[2]! = 49) :
    Calls Try.prog 15 #[.slice (some ⟨b, off, none⟩) xs.length c] w (ReadR xs w) := by
  have hne : xs ≠ [] := fun e => by rw [e] at h3; simp at h3
  have hhd : headR xs = .ok ((), xs.drop 3) := by
    match xs, h3, g0, g1, g2 with
    | x :: y :: z :: t, _, g0, g1, g2 =>
      have g0 : x = 66 := g0
      have g1 : y = 87 := g1
      have g2 : z = 49 := g2
      subst g0; subst g1; subst g2
      rfl
  have hres : contSc (xs.drop 3) = readG xs := by rw [readG_is, if_neg (by omega), hhd]; rfl
  have HG : Hid (Gd xs (readG xs) 3 0 contSc) := ⟨h3, .inl ⟨rfl, hres⟩⟩
  have HI := Lib.hid (fun W (hW : Below w.heap.size w W) => show RB.Is W (.slice (some ⟨b, off, none⟩) xs.length c) xs from .inr ⟨hne, b, off, c, rfl, Nat.lt_of_lt_of_le hb hW.size, hr.below hW hb⟩)
  have HX := Lib.hid hx
  have s0 : w.cell? ⟨b, off, none⟩ = some (.int .u8 66) := by have := atB hr 0 (by omega); rw [g0, Nat.add_zero] at this; exact this
  have s1 : w.cell? ⟨b, off + 1, none⟩ = some (.int .u8 87) := by have := atB hr 1 (by omega); rw [g1] at this; exact this
  have s2 : w.cell? ⟨b, off + 2, none⟩ = some (.int .u8 49) := by have := atB hr 2 (by omega); rw [g2] at this; exact this
  have kc := kcG w
  have k0 : ((w.alloc (.cells #[.slice none 0 0, .slice none 0 0, .slice none 0 0, .slice none 0 0] 26)).alloc (.cells #[.int .u8 66, .int .u8 87, .int .u8 49] 5 (3, 4))).cell? ⟨w.heap.size + 1, 0, none⟩ = some (.int .u8 66) := litG w 0
  have k1 : ((w.alloc (.cells #[.slice none 0 0, .slice none 0 0, .slice none 0 0, .slice none 0 0] 26)).alloc (.cells #[.int .u8 66, .int .u8 87, .int .u8 49] 5 (3, 4))).cell? ⟨w.heap.size + 1, 1, none⟩ = some (.int .u8 87) := litG w 1
  have k2 : ((w.alloc (.cells #[.slice none 0 0, .slice none 0 0, .slice none 0 0, .slice none 0 0] 26)).alloc (.cells #[.int .u8 66, .int .u8 87, .int .u8 49] 5 (3, 4))).cell? ⟨w.heap.size + 1, 2, none⟩ = some (.int .u8 49) := litG w 2
  have m0 := oldG w hb s0
  have m1 := oldG w hb s1
  have m2 := oldG w hb s2
  have HNum := Lib.hid (fun (bw at' e least most bad : Nat) (f : Nat → CG) (W : World) (hbox : WB W bw (.slice (some ⟨b, off, none⟩) xs.length c) at' e) (hB : Below w.heap.size w W) (hm : most < 9223372036854775808) (hle : least ≤ most) (hb : bad ≠ 0) (hb2 : bad ≤ 100) (he : e ≤ 100) (hG : Gd xs (readG xs) at' e (fun r => andR (numR least most bad r) f)) => wnum_any hbox (HI.out W hB) hc hx (by omega) hm hle hb hb2 he hG)
  have HSgn := Lib.hid (fun (bw at' e : Nat) (f : Int → CG) (W : World) (hbox : WB W bw (.slice (some ⟨b, off, none⟩) xs.length c) at' e) (hB : Below w.heap.size w W) (he : e ≤ 100) (hG : Gd xs (readG xs) at' e (fun r => andR (sgnR r) f)) => wsgn_any hbox (HI.out W hB) hc hx (by omega) he hG)
  have HLt := Lib.hid (show ∀ (at' : Nat), at' < xs.length → xs.drop at' ≠ [] from fun at' h e => by have := congrArg List.length e; rw [List.length_drop] at this; simp at this; omega)
  have HEnd := Lib.hid (show xs.drop xs.length = [] from List.drop_length)
  unfold ReadR
  clear hr hhd hres hx hne HI
  generalize readG xs = res at *
  generalize hn : xs.length = n at *
  have HXn := Lib.hid hn
  clear hn
  have HB0 := Lib.hid (balloc9 (o := .cells #[.slice (some ⟨w.heap.size + 3, 0, none⟩) 1 1, .slice (some ⟨w.heap.size + 4, 0, none⟩) 1 1, .slice none 0 0, .slice none 0 0] 26) (balloc9 (o := .cells #[.int .i64 0] 3) (balloc9 (o := .cells #[.int .i64 (-1)] 3) (balloc9 (o := .cells #[.slice (some ⟨b, off, none⟩) n c, .int .i64 3, .int .i64 0] 72) (balloc9 (o := .cells #[.int .u8 66, .int .u8 87, .int .u8 49] 5 (3, 4)) (balloc9 (o := .cells #[.slice none 0 0, .slice none 0 0, .slice none 0 0, .slice none 0 0] 26) (Below.refl w.heap.size w)))))))
  have HS0 := Lib.hid (gs_init w b off n c)
  have z0 : ((0 : Int) == (n : Int)) = false := by simp; omega
  have z1 : ((1 : Int) == (n : Int)) = false := by simp; omega
  have z2 : ((2 : Int) == (n : Int)) = false := by simp; omega
  have zl0 : (0 : Int) < (n : Int) := by omega
  have zl1 : (1 : Int) < (n : Int) := by omega
  have zl2 : (2 : Int) < (n : Int) := by omega
  have zl : ¬ (n : Int) > 8192 := by omega
  go_enter Try.func15, Try.ntmps15
  generalize hQ9 : bodyPost _ _ _ = Q9
  have HQ9 := Lib.hid hQ9
  clear hQ9
  go_wp2_with fail
  refine wp_loop_rounds 4 ?_
  rw [rounds_succ]
  go_wp2_with fail
  rw [rounds_succ]
  go_wp2_with fail
  rw [rounds_succ]
  go_wp2_with fail
  rw [rounds_succ]
  go_upto_region 13 with (fail)
  refine gen_world (fun W => Below w.heap.size w W ∧ GS w.heap.size (w.heap.size + 1 + 1 + 1 + 1 + 1) (w.heap.size + 1 + 1) w.heap.size W (.slice (some ⟨b, off, none⟩) n c) (.slice (some ⟨w.heap.size + 1 + 1 + 1, 0, none⟩) 1 1) (.slice (some ⟨w.heap.size + 1 + 1 + 1 + 1, 0, none⟩) 1 1) (.slice none 0 0) (.slice none 0 0) [-1] [0] [] [] [] 3 0) ⟨HB0.out, HS0.out⟩ ?_
  rintro wr ⟨hB, hS⟩
  have HB := Lib.hid hB; have HS := Lib.hid hS
  clear hB hS HB0 HS0 kc k0 k1 k2 m0 m1 m2 s0 s1 s2 z0 z1 z2 zl0 zl1 zl2 zl g0 g1 g2
  have HE0 : Hid ((0 : Nat) ≤ 100) := by show _ ≤ _; omega
  have hpb : ∃ pv bv : Value, pv = .slice (some ⟨w.heap.size + 1 + 1 + 1, 0, none⟩) 1 1 ∧ bv = .slice (some ⟨w.heap.size + 1 + 1 + 1 + 1, 0, none⟩) 1 1 := ⟨_, _, rfl, rfl⟩
  generalize w.heap.size + 1 + 1 + 1 + 1 + 1 = gb at *
  generalize hbw : w.heap.size + 1 + 1 = bw at *
  clear hbw hpb
  have hrb : ∃ rb, rb = w.heap.size := ⟨_, rfl⟩
  have HC := Lib.hid (HNum.out bw 3 0 1 8 11 (fun k r => contS [-1] [0] (k - 1) r) wr HS.out.wbox HB.out (by decide) (by decide) (by decide) (by decide) HE0.out HG.out)
  go_wp2_with fail
  refine (HC.out).mono ?_
  rintro ee wn ⟨sc, at0, e0, rfl, hsc, hsl, he0, hnb1, hwb1, hg1⟩
  have HS1 := Lib.hid (HS.out.nb2 hnb1.nb2 hwb1); have HB1 := Lib.hid (hnb1.below HB.out HS.out.hw); have HG1 := Lib.hid hg1; have HE1 := Lib.hid he0
  clear hnb1 hwb1 hg1 HC HS HB HG HE0 hrb hsl
  go_wp2_with fail
  go_loopg [9] 9 (fun gg i wr => ∃ (k : Nat) (pv bv : Value) (P Q : List Int) (at0 e0 : Nat), i = .int .i64 (k : Int) ∧ 9 - k ≤ gg ∧ 1 ≤ k ∧ k ≤ 9 ∧ P.length = k ∧ Q.length = k ∧ Hid (GS w.heap.size gb bw w.heap.size wr (.slice (some ⟨b, off, none⟩) n c) pv bv (.slice none 0 0) (.slice none 0 0) P Q [] [] [] at0 e0) ∧ Hid (Below w.heap.size w wr) ∧ Hid (e0 ≤ 100) ∧ Hid (Gd xs res at0 e0 (contS P Q (sc - k))))
  case atStart => exact ⟨1, _, _, [-1], [0], at0, e0, rfl, by omega, by omega, by omega, rfl, rfl, HS1.out, HB1.out, HE1.out, HG1.out⟩
  case round =>
    clear HS1 HB1 HE1 HG1 he0
    obtain ⟨k, pv, bv, P, Q, at0, e0, rfl, hg, hk1, hk9, hP, hQ, HS, HB, HE, HG⟩ := hrel
    by_cases hlt : k < sc
    · have hlz : (k : Int) < (sc : Int) := by omega
      have hstep : sc - k = (sc - (k + 1)) + 1 := by omega
      have hgq := HG.out
      rw [hstep, contS_step] at hgq
      have HGq := Lib.hid hgq
      have HC := Lib.hid (HNum.out bw at0 e0 0 topN 2 (fun a => fun r => andR (numR 0 topN 2 r) fun d r => contS (P ++ [(a : Int)]) (Q ++ [(d : Int)]) (sc - (k + 1)) r) wr.drew HS.out.wbox HB.out.drew (by decide) (by decide) (by decide) (by decide) HE.out HGq.out)
      clear hgq HG hstep
      go_upto_region 17 with (fail)
      go_cut [8] from 52 to 70 (fun v8 wx => v8 = .int .i64 (sc : Int) ∧ ∃ (a1 at1 e1 : Nat) (pv' : Value), GS w.heap.size gb bw w.heap.size wx (.slice (some ⟨b, off, none⟩) n c) pv' bv (.slice none 0 0) (.slice none 0 0) (P ++ [(a1 : Int)]) Q [] [] [] at1 e1 ∧ Below w.heap.size w wx ∧ e1 ≤ 100 ∧ Gd xs res at1 e1 (fun r => andR (numR 0 topN 2 r) fun d r => contS (P ++ [(a1 : Int)]) (Q ++ [(d : Int)]) (sc - (k + 1)) r))
      case first =>
        have d0 : wr.cell? ⟨gb, 0, none⟩ = some pv := rowOf_cell HS.out.grow 0
        rw [← HQ9.out]
        go_region_law (first
          | (refine RowKind.Own.appendBR (R := RN) (w := wn.alloc (.cells (RN.enc (a1 : Int)).toArray 3)) rfl _ _ rfl (hS1.alloc (.cells (RN.enc (a1 : Int)).toArray 3)).par rfl [(a1 : Int)] rfl (RowKind.Row.app (ys := [(a1 : Int)]) (RowKind.Row.new (R := RN) wn (a1 : Int) 3)) (by rw [List.length_singleton]; omega) (Nat.le_trans hS1.size (by simp)) ?_; intro v6 w6 hO6 hg6 hs6; have hrow := (rowOf_block ((hS1.alloc (.cells (RN.enc (a1 : Int)).toArray 3)).tg.grown (hS1.alloc (.cells (RN.enc (a1 : Int)).toArray 3)).par hg6 (by decide))).trans (hS1.alloc (.cells (RN.enc (a1 : Int)).toArray 3)).grow; have d6 : w6.cell? ⟨gb, 0, none⟩ = some pv := rowOf_cell hrow 0; have f6 := rowOf_frozen hrow 0; have hS6 := (hS1.alloc (.cells (RN.enc (a1 : Int)).toArray 3)).setP hg6 hO6 hs6; have hlt6 := (hS1.alloc (.cells (RN.enc (a1 : Int)).toArray 3)).par.lt; have hB6 := ((hB1.alloc hB1.size (.cells (RN.enc (a1 : Int)).toArray 3)).grown hg6 (Nat.le_trans hB1.size (by simp)) (fun k hk => (hlt6 k hk).1)).setCell (p := ⟨gb, 0, none⟩) hS1.hg v6; obtain ⟨p6, c6, rfl⟩ := hO6.is.slice; clear hrow hlt6 hO6 hg6 hs6; generalize hln : (P ++ [(a1 : Int)]).length = ln at *)
          | (go_simp; go_at_call 36; refine (HC.out).mono ?_; rintro ee wn ⟨a1, at1, e1, rfl, ha1, hl1, he1, hnb1, hwb1, hg1⟩; have hS1 := HS.out.drew.nb2 hnb1.nb2 hwb1; have hB1 := hnb1.below HB.out.drew HS.out.hw; have d1 : wn.cell? ⟨gb, 0, none⟩ = some pv := rowOf_cell hS1.grow 0; have d2 : (wn.alloc (.cells #[.int .i64 (a1 : Int)] 3)).cell? ⟨gb, 0, none⟩ = some pv := rowOf_cell (hS1.alloc _).grow 0))
        all_goals rw [HQ9.out]
        all_goals
          try simp only [List.getElem_toArray, List.getElem_cons_succ, List.getElem_cons_zero, Act.put, List.setIfInBounds_toArray, List.set_cons_zero, List.set_cons_succ]
          go_wp2_with fail
          go_meet
          case rel => exact ⟨rfl, a1, at1, e1, _, hS6, hB6, he1, hg1⟩
      case rest =>
        obtain ⟨rfl, a0, at2, e2, pv2, hS, hB, hE, hG⟩ := hcut
        have HS := Lib.hid hS; have HB := Lib.hid hB; have HE := Lib.hid hE; have HG := Lib.hid hG
        have hPn : (P ++ [(a0 : Int)]).length = k + 1 := by rw [List.length_append, hP]; rfl
        clear hS hB hE hG HC HGq
        generalize P ++ [(a0 : Int)] = P2 at *
        have HC := Lib.hid (HNum.out bw at2 e2 0 topN 2 (fun a => fun r => contS P2 (Q ++ [(a : Int)]) (sc - (k + 1)) r) wc.drew HS.out.wbox HB.out.drew (by decide) (by decide) (by decide) (by decide) HE.out HG.out)
        go_upto_region 18 with (fail)
        have d0 : wc.cell? ⟨gb, 1, none⟩ = some bv := rowOf_cell HS.out.grow 1
        rw [← HQ9.out]
        go_region_law (first
          | (refine RowKind.Own.appendBR (R := RN) (w := wn.alloc (.cells (RN.enc (a1 : Int)).toArray 3)) rfl _ _ rfl (hS1.alloc (.cells (RN.enc (a1 : Int)).toArray 3)).bnd rfl [(a1 : Int)] rfl (RowKind.Row.app (ys := [(a1 : Int)]) (RowKind.Row.new (R := RN) wn (a1 : Int) 3)) (by rw [List.length_singleton]; omega) (Nat.le_trans hS1.size (by simp)) ?_; intro v6 w6 hO6 hg6 hs6; have hrow := (rowOf_block ((hS1.alloc (.cells (RN.enc (a1 : Int)).toArray 3)).tg.grown (hS1.alloc (.cells (RN.enc (a1 : Int)).toArray 3)).bnd hg6 (by decide))).trans (hS1.alloc (.cells (RN.enc (a1 : Int)).toArray 3)).grow; have d6 : w6.cell? ⟨gb, 1, none⟩ = some bv := rowOf_cell hrow 1; have f6 := rowOf_frozen hrow 1; have hS6 := (hS1.alloc (.cells (RN.enc (a1 : Int)).toArray 3)).setQ hg6 hO6 hs6; have hlt6 := (hS1.alloc (.cells (RN.enc (a1 : Int)).toArray 3)).bnd.lt; have hB6 := ((hB1.alloc hB1.size (.cells (RN.enc (a1 : Int)).toArray 3)).grown hg6 (Nat.le_trans hB1.size (by simp)) (fun k hk => (hlt6 k hk).1)).setCell (p := ⟨gb, 1, none⟩) hS1.hg v6; obtain ⟨p6, c6, rfl⟩ := hO6.is.slice; clear hrow hlt6 hO6 hg6 hs6; generalize hln : (Q ++ [(a1 : Int)]).length = ln at *)
          | (go_simp; go_at_call 36; refine (HC.out).mono ?_; rintro ee wn ⟨a1, at1, e1, rfl, ha1, hl1, he1, hnb1, hwb1, hg1⟩; have hS1 := HS.out.drew.nb2 hnb1.nb2 hwb1; have hB1 := hnb1.below HB.out.drew HS.out.hw; have d1 : wn.cell? ⟨gb, 1, none⟩ = some bv := rowOf_cell hS1.grow 1; have d2 : (wn.alloc (.cells #[.int .i64 (a1 : Int)] 3)).cell? ⟨gb, 1, none⟩ = some bv := rowOf_cell (hS1.alloc _).grow 1))
        all_goals rw [HQ9.out]
        all_goals
          try simp only [List.getElem_toArray, List.getElem_cons_succ, List.getElem_cons_zero, Act.put, List.setIfInBounds_toArray, List.set_cons_zero, List.set_cons_succ]
          go_wp2
          go_roundg (9 - (k + 1))
          case measure => omega
          case rel => exact ⟨k + 1, _, _, _, _, at1, e1, by go_num, by omega, by omega, by omega, hPn, by rw [List.length_append, hQ]; rfl, hS6, hB6, he1, hg1⟩
    · have hlz : ¬ (k : Int) < (sc : Int) := by omega
      have hgq := HG.out
      rw [show sc - k = 0 by omega, contS_end] at hgq
      have HGq := Lib.hid hgq
      have HC := Lib.hid (HNum.out bw at0 e0 0 32 11 (fun k r => contN P Q [] k r) wr HS.out.wbox HB.out (by decide) (by decide) (by decide) (by decide) HE.out HGq.out)
      clear hgq HG HGq
      go_wp2_with fail
      refine (HC.out).mono ?_
      rintro ee wn ⟨nn, at1, e1, rfl, hnn, hl1, he1, hnb1, hwb1, hg1⟩
      have HS1 := Lib.hid (HS.out.nb2 hnb1.nb2 hwb1); have HB1 := Lib.hid (hnb1.below HB.out HS.out.hw); have HG1 := Lib.hid hg1; have HE1 := Lib.hid he1
      clear hnb1 hwb1 hg1 HC HS HB HE hl1 he1
      go_wp2_with fail
      go_loopg [11] 34 (fun gg i wr => ∃ (k : Nat) (nv : Value) (rs : List NW) (ns : List GN) (at0 e0 : Nat), i = .int .i64 (k : Int) ∧ 33 - k ≤ gg ∧ k ≤ 32 ∧ ns.length = k ∧ Hid (GS w.heap.size gb bw w.heap.size wr (.slice (some ⟨b, off, none⟩) n c) pv bv nv (.slice none 0 0) P Q rs ns [] at0 e0) ∧ Hid (Below w.heap.size w wr) ∧ Hid (e0 ≤ 100) ∧ Hid (Gd xs res at0 e0 (contN P Q ns (nn - k))))
      case atStart => exact ⟨0, _, [], [], at1, e1, rfl, by omega, by omega, rfl, HS1.out, HB1.out, HE1.out, HG1.out⟩
      case round =>
        clear HS1 HB1 HE1 HG1 hk1 hk9 hlt hlz
        clear hg
        obtain ⟨k, nv, rs, ns, at0, e0, rfl, hg, hk, hns, HS, HB, HE, HG⟩ := hrel
        have d2 : wr.cell? ⟨bw, 2, none⟩ = some (.int .i64 (e0 : Int)) := rowOf_cell HS.out.wbox.row 2
        by_cases hgo : k < nn ∧ e0 = 0
        · obtain ⟨hlt, rfl⟩ := hgo
          have hlz : (k : Int) < (nn : Int) := by omega
          have hgq := HG.out
          rw [show nn - k = (nn - (k + 1)) + 1 by omega, contN_step] at hgq
          have HGq := Lib.hid hgq
          have hN0 := ns_init HS.out.wbox
          have HNb := Lib.hid (((Nb2.refl wr.heap.size bw wr).alloc (Nat.le_refl _) (.cells #[.int .i64 0, .int .i64 0, .int .i64 0, .slice none 0 0] 46)))
          have HN1 := Lib.hid hN0
          have HBa := Lib.hid (HB.out.alloc HB.out.size (.cells #[.int .i64 0, .int .i64 0, .int .i64 0, .slice none 0 0] 46))
          have HC := Lib.hid (HNum.out bw at0 0 0 topN 2 (fun a => fun r => andR (numR 0 topN 2 r) fun d r => andR (sgnR r) fun s r => andR (numR 0 64 11 r) fun m r => contI P Q ns (nn - (k + 1)) ⟨a, d, s, []⟩ m r) (wr.alloc (.cells #[.int .i64 0, .int .i64 0, .int .i64 0, .slice none 0 0] 46)) HN1.out.wbox HBa.out (by decide) (by decide) (by decide) (by decide) HE.out HGq.out)
          have HwN : Hid (w.heap.size ≤ wr.heap.size) := HB.out.size
          have HwB : Hid (w.heap.size ≤ bw) := HS.out.hw
          clear hgq HG HGq hN0 HE
          go_wp2_with fail
          refine (HC.out).mono ?_
          rintro ee wn ⟨a1, at1, e1, rfl, ha1, hl1, he1, hnb1, hwb1, hg1⟩
          have hq := HN1.out.nb2 hnb1.nb2 hwb1
          have x0 : wn.cell? ⟨wr.heap.size, 0, none⟩ = some (.int .i64 0) := rowOf_cell hq.xrow 0
          have y0 := rowOf_frozen hq.xrow 0
          have HN2 := Lib.hid (hq.set0 (a1 : Int))
          have HNb2 := Lib.hid ((HNb.out.nb hnb1).set (i := 0) (Nat.le_refl _) (.int .i64 (a1 : Int)))
          have HG2 := Lib.hid hg1; have HE2 := Lib.hid he1
          have HB2 := Lib.hid (HNb2.out.below HB.out HwB.out HwN.out)
          clear hq hnb1 hwb1 hg1 HC HN1 HNb HBa hl1 ha1 he1 d2
          have HC := Lib.hid (HNum.out bw at1 e1 0 topN 2 (fun d => fun r => andR (sgnR r) fun s r => andR (numR 0 64 11 r) fun m r => contI P Q ns (nn - (k + 1)) ⟨a1, d, s, []⟩ m r) (wn.setCell ⟨wr.heap.size, 0, none⟩ (.int .i64 (a1 : Int))) HN2.out.wbox HB2.out (by decide) (by decide) (by decide) (by decide) HE2.out HG2.out)
          go_wp2_with fail
          refine (HC.out).mono ?_
          rintro ee wm ⟨a2, at2, e2, rfl, ha2, hl2, he2, hnb2, hwb2, hg2⟩
          have hq := HN2.out.nb2 hnb2.nb2 hwb2
          have x1 : wm.cell? ⟨wr.heap.size, 1, none⟩ = some (.int .i64 0) := rowOf_cell hq.xrow 1
          have y1 := rowOf_frozen hq.xrow 1
          have HN3 := Lib.hid (hq.set1 (a2 : Int))
          have HNb3 := Lib.hid ((HNb2.out.nb hnb2).set (i := 1) (Nat.le_refl _) (.int .i64 (a2 : Int)))
          have HG3 := Lib.hid hg2; have HE3 := Lib.hid he2
          have HB3 := Lib.hid (HNb3.out.below HB.out HwB.out HwN.out)
          clear hq hnb2 hwb2 hg2 HC HN2 HNb2 HB2 HG2 HE2 hl2 ha2 he2 x0 y0
          have HC := Lib.hid (HSgn.out bw at2 e2 (fun s => fun r => andR (numR 0 64 11 r) fun m r => contI P Q ns (nn - (k + 1)) ⟨a1, a2, s, []⟩ m r) (wm.setCell ⟨wr.heap.size, 1, none⟩ (.int .i64 (a2 : Int))) HN3.out.wbox HB3.out HE3.out HG3.out)
          go_wp2_with fail
          refine (HC.out).mono ?_
          rintro ee wp ⟨a3, at3, e3, rfl, ha3, he3, hnb3, hwb3, hg3⟩
          have hq := HN3.out.nb2 hnb3.nb2 hwb3
          have x2 : wp.cell? ⟨wr.heap.size, 2, none⟩ = some (.int .i64 0) := rowOf_cell hq.xrow 2
          have y2 := rowOf_frozen hq.xrow 2
          have HN4 := Lib.hid (hq.set2 a3)
          have HNb4 := Lib.hid ((HNb3.out.nb hnb3).set (i := 2) (Nat.le_refl _) (.int .i64 a3))
          have HG4 := Lib.hid hg3; have HE4 := Lib.hid he3
          have HB4 := Lib.hid (HNb4.out.below HB.out HwB.out HwN.out)
          clear hq hnb3 hwb3 hg3 HC HN3 HNb3 HB3 HG3 HE3 ha3 he3 x1 y1
          have HC := Lib.hid (HNum.out bw at3 e3 0 64 11 (fun m => fun r => contI P Q ns (nn - (k + 1)) ⟨a1, a2, a3, []⟩ m r) (wp.setCell ⟨wr.heap.size, 2, none⟩ (.int .i64 a3)) HN4.out.wbox HB4.out (by decide) (by decide) (by decide) (by decide) HE4.out HG4.out)
          go_wp2_with fail
          refine (HC.out).mono ?_
          rintro ee wq ⟨mm, at4, e4, rfl, hmm, hl4, he4, hnb4, hwb4, hg4⟩
          have HN5 := Lib.hid (HN4.out.nb2 hnb4.nb2 hwb4)
          have HNb5 := Lib.hid (HNb4.out.nb hnb4)
          have HG5 := Lib.hid hg4; have HE5 := Lib.hid he4
          clear hnb4 hwb4 hg4 HC HN4 HNb4 HB4 HG4 HE4 hl4 he4 x2 y2
          have HSr := Lib.hid HS.out; have HBr := Lib.hid HB.out
          have hrl : ∃ w0 : World, w0 = wr := ⟨_, rfl⟩
          obtain ⟨w0, hw0⟩ := hrl
          rw [← hw0] at HN5 HNb5 HSr HBr HwN ⊢
          clear HS HB
          generalize hxb : w0.heap.size = xb at *
          have HXb := Lib.hid hxb
          clear hxb
          go_wp2_with fail
          go_loopg [14] 65 (fun gg i wr => ∃ (k3 : Nat) (lv : Value) (L : List NV) (at0 e0 : Nat), i = .int .i64 (k3 : Int) ∧ 65 - k3 ≤ gg ∧ k3 ≤ 64 ∧ L.length = k3 ∧ Hid (NS xb bw xb wr (.slice (some ⟨b, off, none⟩) n c) at0 e0 a1 a2 a3 lv L) ∧ Hid (Nb2 xb bw w0 wr) ∧ Hid (e0 ≤ 100) ∧ Hid (Gd xs res at0 e0 (contI P Q ns (nn - (k + 1)) ⟨a1, a2, a3, L⟩ (mm - k3))))
          case atStart => exact ⟨0, _, [], at4, e4, rfl, by omega, by omega, rfl, HN5.out, HNb5.out, HE5.out, HG5.out⟩
          case round =>
            clear HN5 HNb5 HE5 HG5
            obtain ⟨k3, lv, L, at0, e0, rfl, hg3, hk3, hL, HN, HNb, HE, HG⟩ := hrel
            have d2 : wr.cell? ⟨bw, 2, none⟩ = some (.int .i64 (e0 : Int)) := rowOf_cell HN.out.wbox.row 2
            by_cases hgo : k3 < mm ∧ e0 = 0
            · obtain ⟨hlt3, rfl⟩ := hgo
              have hlz3 : (k3 : Int) < (mm : Int) := by omega
              have hgq := HG.out
              rw [show mm - k3 = (mm - (k3 + 1)) + 1 by omega, contI_step] at hgq
              dsimp only at hgq
              have HGq := Lib.hid hgq
              have hbl := HN.out.wbox.lt
              have hxw : Hid (w.heap.size ≤ xb) := by show _ ≤ _; rw [← HXb.out]; exact HBr.out.size
              have HBy := Lib.hid (HNb.out.below HBr.out HSr.out.hw hxw.out)
              have hyr : rowOf (wr.alloc (.cells #[.int .i64 0, .int .i64 0] 56)) wr.heap.size = some #[.int .i64 0, .int .i64 0] := rowOf_alloc_at _ _ _ rfl
              have HNy := Lib.hid ((Nb2.refl wr.heap.size bw wr).alloc (Nat.le_refl _) (.cells #[.int .i64 0, .int .i64 0] 56))
              have HC := Lib.hid (HNum.out bw at0 0 0 topN 2 (fun (a : Nat) (r : List Int) => andR (sgnR r) fun (s : Int) (r : List Int) => contI P Q ns (nn - (k + 1)) (GN.mk (a1 : Int) (a2 : Int) a3 (L ++ [NV.mk (a : Int) s])) (mm - (k3 + 1)) r) (wr.alloc (.cells #[.int .i64 0, .int .i64 0] 56)) (HN.out.wbox.alloc _) (HBy.out.alloc HBy.out.size _) (by decide) (by decide) (by decide) (by decide) HE.out HGq.out)
              have HYr := Lib.hid hyr
              clear hgq HG HGq hyr HE
              go_wp2_with fail
              refine (HC.out).mono ?_
              rintro ee wn ⟨b1, at1, e1, rfl, hb1, hl1, he1, hnb1, hwb1, hg1⟩
              have hr1 := hnb1.row HYr.out (by omega)
              have y0 : wn.cell? ⟨wr.heap.size, 0, none⟩ = some (.int .i64 0) := rowOf_cell hr1 0
              have z0 := rowOf_frozen hr1 0
              have hrs : rowOf (wn.setCell ⟨wr.heap.size, 0, none⟩ (.int .i64 (b1 : Int))) wr.heap.size = some #[.int .i64 (b1 : Int), .int .i64 0] := by rw [rowOf_setCell_same, hr1]; rfl
              have HYr2 := Lib.hid hrs
              have HNy2 := Lib.hid ((HNy.out.nb hnb1).set (i := 0) (Nat.le_refl _) (.int .i64 (b1 : Int)))
              have HW2 := Lib.hid (hwb1.other (k := wr.heap.size) (i := 0) (u := .int .i64 (b1 : Int)) (by omega))
              have HG2 := Lib.hid hg1; have HE2 := Lib.hid he1
              have HB2 := Lib.hid (HNy2.out.below HBy.out HSr.out.hw HBy.out.size)
              have HC := Lib.hid (HSgn.out bw at1 e1 (fun (s : Int) (r : List Int) => contI P Q ns (nn - (k + 1)) (GN.mk (a1 : Int) (a2 : Int) a3 (L ++ [NV.mk (b1 : Int) s])) (mm - (k3 + 1)) r) (wn.setCell ⟨wr.heap.size, 0, none⟩ (.int .i64 (b1 : Int))) HW2.out HB2.out HE2.out HG2.out)
              clear hr1 hrs hnb1 hwb1 hg1 HYr HNy HW2 HG2 HE2 HB2 hb1 hl1 he1 d2
              go_wp2_with fail
              refine (HC.out).mono ?_
              rintro ee wp ⟨b2, at2, e2, rfl, hb2, he2, hnb2, hwb2, hg2⟩
              have hr1 := hnb2.row HYr2.out (by omega)
              have y1 : wp.cell? ⟨wr.heap.size, 1, none⟩ = some (.int .i64 0) := rowOf_cell hr1 1
              have z1 := rowOf_frozen hr1 1
              have hrs : rowOf (wp.setCell ⟨wr.heap.size, 1, none⟩ (.int .i64 b2)) wr.heap.size = some #[.int .i64 (b1 : Int), .int .i64 b2] := by rw [rowOf_setCell_same, hr1]; rfl
              have HYr3 := Lib.hid hrs
              have HNy3 := Lib.hid ((HNy2.out.nb hnb2).set (i := 1) (Nat.le_refl _) (.int .i64 b2))
              have HW3 := Lib.hid (hwb2.other (k := wr.heap.size) (i := 1) (u := .int .i64 b2) (by omega))
              have HN3 := Lib.hid (HN.out.nb2 HNy3.out HW3.out)
              have hxl : xb ≤ wr.heap.size := Nat.le_of_lt HN.out.tx.lt
              have HNb3 := Lib.hid (HNb.out.trans ⟨HNy3.out.os, HNy3.out.tape, HNy3.out.output, HNy3.out.size, fun k hk hkb => HNy3.out.block k (by omega) hkb⟩)
              have HG3 := Lib.hid hg2; have HE3 := Lib.hid he2
              clear hr1 hrs hnb2 hwb2 hg2 HYr2 HNy2 HC hb2 he2 HNy3 HW3
              go_upto_region 34 with (fail)
              refine gen_world (fun W => NS xb bw xb W (.slice (some ⟨b, off, none⟩) n c) at2 e2 a1 a2 a3 lv L ∧ Nb2 xb bw w0 W ∧ rowOf W wr.heap.size = some #[.int .i64 (b1 : Int), .int .i64 b2]) ⟨HN3.out, HNb3.out, HYr3.out⟩ ?_
              rintro w5 ⟨hN5, hNb5, hy5⟩
              clear HN3 HNb3 HYr3 y0 z0 y1 z1 HN HNb HBy
              generalize wr.heap.size = yb at *
              have y0 : w5.cell? ⟨yb, 0, none⟩ = some (.int .i64 (b1 : Int)) := rowOf_cell hy5 0
              have y1 : w5.cell? ⟨yb, 1, none⟩ = some (.int .i64 b2) := rowOf_cell hy5 1
              have x3 : w5.cell? ⟨xb, 3, none⟩ = some lv := rowOf_cell hN5.xrow 3
              have HN5 := Lib.hid hN5; have HNb5 := Lib.hid hNb5
              clear hN5 hNb5 hy5 hbl hxl
              go_wp2_with (at_builtin; refine RowKind.Own.append (R := RC) (w := w5.alloc (.cells (RC.enc ⟨b1, b2⟩).toArray 56)) rfl _ _ rfl (HN5.out.alloc _).prog rfl [(⟨b1, b2⟩ : NV)] rfl (RowKind.Row.app (ys := [(⟨b1, b2⟩ : NV)]) (RowKind.Row.new (R := RC) w5 (⟨b1, b2⟩ : NV) 56)) (by rw [List.length_singleton]; omega) (Nat.le_of_lt (HN5.out.alloc _).tx.lt) ?_; intro v6 w6 hO6 hg6; have hNa := HN5.out.alloc (.cells (RC.enc ⟨b1, b2⟩).toArray 56); have hrow := (rowOf_block (hNa.tx.grown hNa.prog hg6 (by decide))).trans hNa.xrow; have d6 : w6.cell? ⟨xb, 3, none⟩ = some lv := rowOf_cell hrow 3; have f6 := rowOf_frozen hrow 3; have HN6 := Lib.hid (hNa.setL hg6 hO6); have hlt6 := hNa.prog.lt; have HNb6 := Lib.hid (((HNb5.out.alloc (Nat.le_of_lt HN5.out.tx.lt) (.cells (RC.enc ⟨b1, b2⟩).toArray 56)).grown (Nat.le_of_lt hNa.tx.lt) hg6 (fun k hk => (hlt6 k hk).1)).set (i := 3) (Nat.le_refl _) v6); obtain ⟨p6, c6, rfl⟩ := hO6.is.slice; clear hrow hlt6 hO6 hg6 hNa; generalize hln : (L ++ [(⟨b1, b2⟩ : NV)]).length = ln at *)
              go_roundg (65 - (k3 + 1))
              case measure => omega
              case rel => exact ⟨k3 + 1, _, _, at2, e2, by go_num, by omega, by omega, by rw [List.length_append, hL]; rfl, HN6.out, HNb6.out, HE3.out, HG3.out⟩
            · by_cases hlt3 : k3 < mm
              · have hlz3 : (k3 : Int) < (mm : Int) := by omega
                have he0 : e0 ≠ 0 := fun q => hgo ⟨hlt3, q⟩
                have heb : ((e0 : Int) == 0) = false := by simp; omega
                have HGx := Lib.hid (HG.out.bad he0 (contN P Q (ns ++ [⟨a1, a2, a3, L⟩]) (nn - (k + 1))))
                clear HG hgo he0
                have HSn := Lib.hid (HSr.out.nb2 (by rw [HXb.out]; exact HNb.out) HN.out.wbox)
                have HBn := Lib.hid (HNb.out.below HBr.out HSr.out.hw (by rw [← HXb.out]; exact HBr.out.size))
                have hrx := HN.out.xrow
                obtain ⟨lp, lc, rfl⟩ := HN.out.prog.is.slice
                rw [hL] at hrx
                have x0 : wr.cell? ⟨xb, 0, none⟩ = some (.int .i64 (a1 : Int)) := rowOf_cell hrx 0
                have x1 : wr.cell? ⟨xb, 1, none⟩ = some (.int .i64 (a2 : Int)) := rowOf_cell hrx 1
                have x2 : wr.cell? ⟨xb, 2, none⟩ = some (.int .i64 a3) := rowOf_cell hrx 2
                have x3 : wr.cell? ⟨xb, 3, none⟩ = some (.slice lp k3 lc) := rowOf_cell hrx 3
                have g2 : wr.cell? ⟨gb, 2, none⟩ = some nv := rowOf_cell HSn.out.grow 2
                have hpr := HN.out.prog.mono (show w.heap.size ≤ xb by rw [← HXb.out]; exact HBr.out.size)
                rw [hL] at hpr
                have HPr := Lib.hid hpr
                clear hrx hpr
                go_wp2_with (at_builtin; refine RowKind.Own.append (R := RW) (w := wr.alloc (.cells (RW.enc ⟨a1, a2, a3, lp, k3, lc⟩).toArray 46)) rfl _ _ rfl (HSn.out.alloc _).nod rfl [(⟨a1, a2, a3, lp, k3, lc⟩ : NW)] rfl (RowKind.Row.app (ys := [(⟨a1, a2, a3, lp, k3, lc⟩ : NW)]) (RowKind.Row.new (R := RW) wr (⟨a1, a2, a3, lp, k3, lc⟩ : NW) 46)) (by have := HSn.out.len; rw [List.length_singleton]; omega) (Nat.le_trans HSn.out.size (by simp)) ?_; intro v6 w6 hO6 hg6; have hSa := HSn.out.alloc (.cells (RW.enc ⟨a1, a2, a3, lp, k3, lc⟩).toArray 46); have hrow := (rowOf_block (hSa.tg.grown hSa.nod hg6 (by decide))).trans hSa.grow; have d6 : w6.cell? ⟨gb, 2, none⟩ = some nv := rowOf_cell hrow 2; have f6 := rowOf_frozen hrow 2; have HS6 := Lib.hid (hSa.setN hg6 (x := ⟨a1, a2, a3, lp, k3, lc⟩) (g := ⟨a1, a2, a3, L⟩) hO6 ⟨rfl, rfl, rfl, HPr.out.alloc _⟩); have hlt6 := hSa.nod.lt; have HB6 := Lib.hid (((HBn.out.alloc HBn.out.size (.cells (RW.enc ⟨a1, a2, a3, lp, k3, lc⟩).toArray 46)).grown hg6 (Nat.le_trans HBn.out.size (by simp)) (fun k hk => (hlt6 k hk).1)).setCell (p := ⟨gb, 2, none⟩) HSn.out.hg v6); obtain ⟨p6, c6, rfl⟩ := hO6.is.slice; clear hrow hlt6 hO6 hg6 hSa; generalize hln : (rs ++ [(⟨a1, a2, a3, lp, k3, lc⟩ : NW)]).length = ln at *)
                go_roundg (33 - (k + 1))
                case measure => omega
                case rel => exact ⟨k + 1, _, _, _, at0, e0, by go_num, by omega, by omega, by rw [List.length_append, hns]; rfl, HS6.out, HB6.out, HE.out, HGx.out⟩
              · have hlz3 : ¬ (k3 : Int) < (mm : Int) := by omega
                have hgq := HG.out
                rw [show mm - k3 = 0 by omega, contI_end] at hgq
                have HGx := Lib.hid hgq
                clear HG hgo hgq
                have HSn := Lib.hid (HSr.out.nb2 (by rw [HXb.out]; exact HNb.out) HN.out.wbox)
                have HBn := Lib.hid (HNb.out.below HBr.out HSr.out.hw (by rw [← HXb.out]; exact HBr.out.size))
                have hrx := HN.out.xrow
                obtain ⟨lp, lc, rfl⟩ := HN.out.prog.is.slice
                rw [hL] at hrx
                have x0 : wr.cell? ⟨xb, 0, none⟩ = some (.int .i64 (a1 : Int)) := rowOf_cell hrx 0
                have x1 : wr.cell? ⟨xb, 1, none⟩ = some (.int .i64 (a2 : Int)) := rowOf_cell hrx 1
                have x2 : wr.cell? ⟨xb, 2, none⟩ = some (.int .i64 a3) := rowOf_cell hrx 2
                have x3 : wr.cell? ⟨xb, 3, none⟩ = some (.slice lp k3 lc) := rowOf_cell hrx 3
                have g2 : wr.cell? ⟨gb, 2, none⟩ = some nv := rowOf_cell HSn.out.grow 2
                have hpr := HN.out.prog.mono (show w.heap.size ≤ xb by rw [← HXb.out]; exact HBr.out.size)
                rw [hL] at hpr
                have HPr := Lib.hid hpr
                clear hrx hpr
                go_wp2_with (at_builtin; refine RowKind.Own.append (R := RW) (w := wr.alloc (.cells (RW.enc ⟨a1, a2, a3, lp, k3, lc⟩).toArray 46)) rfl _ _ rfl (HSn.out.alloc _).nod rfl [(⟨a1, a2, a3, lp, k3, lc⟩ : NW)] rfl (RowKind.Row.app (ys := [(⟨a1, a2, a3, lp, k3, lc⟩ : NW)]) (RowKind.Row.new (R := RW) wr (⟨a1, a2, a3, lp, k3, lc⟩ : NW) 46)) (by have := HSn.out.len; rw [List.length_singleton]; omega) (Nat.le_trans HSn.out.size (by simp)) ?_; intro v6 w6 hO6 hg6; have hSa := HSn.out.alloc (.cells (RW.enc ⟨a1, a2, a3, lp, k3, lc⟩).toArray 46); have hrow := (rowOf_block (hSa.tg.grown hSa.nod hg6 (by decide))).trans hSa.grow; have d6 : w6.cell? ⟨gb, 2, none⟩ = some nv := rowOf_cell hrow 2; have f6 := rowOf_frozen hrow 2; have HS6 := Lib.hid (hSa.setN hg6 (x := ⟨a1, a2, a3, lp, k3, lc⟩) (g := ⟨a1, a2, a3, L⟩) hO6 ⟨rfl, rfl, rfl, HPr.out.alloc _⟩); have hlt6 := hSa.nod.lt; have HB6 := Lib.hid (((HBn.out.alloc HBn.out.size (.cells (RW.enc ⟨a1, a2, a3, lp, k3, lc⟩).toArray 46)).grown hg6 (Nat.le_trans HBn.out.size (by simp)) (fun k hk => (hlt6 k hk).1)).setCell (p := ⟨gb, 2, none⟩) HSn.out.hg v6); obtain ⟨p6, c6, rfl⟩ := hO6.is.slice; clear hrow hlt6 hO6 hg6 hSa; generalize hln : (rs ++ [(⟨a1, a2, a3, lp, k3, lc⟩ : NW)]).length = ln at *)
                go_roundg (33 - (k + 1))
                case measure => omega
                case rel => exact ⟨k + 1, _, _, _, at0, e0, by go_num, by omega, by omega, by rw [List.length_append, hns]; rfl, HS6.out, HB6.out, HE.out, HGx.out⟩
        · by_cases hlt : k < nn
          · have hlz : (k : Int) < (nn : Int) := by omega
            have he0 : e0 ≠ 0 := fun q => hgo ⟨hlt, q⟩
            have heb : ((e0 : Int) == 0) = false := by simp; omega
            have HGx := Lib.hid (HG.out.bad he0 (contEc P Q ns))
            clear hgo he0
            have HC := Lib.hid (HNum.out bw at0 e0 0 64 11 (fun (m : Nat) (r : List Int) => contE P Q ns [] m r) wr HS.out.wbox HB.out (by decide) (by decide) (by decide) (by decide) HE.out HGx.out)
            clear HG HGx
            go_wp2_with fail
            refine (HC.out).mono ?_
            rintro ee wn ⟨ne, at1, e1, rfl, hne, hl1, he1, hnb1, hwb1, hg1⟩
            have HS1 := Lib.hid (HS.out.nb2 hnb1.nb2 hwb1); have HB1 := Lib.hid (hnb1.below HB.out HS.out.hw); have HG1 := Lib.hid hg1; have HE1 := Lib.hid he1
            clear hnb1 hwb1 hg1 HC HS HB HE hl1 he1 d2
            go_wp2_with fail
            go_loopg [17] 66 (fun gg i wr => ∃ (k5 : Nat) (ev : Value) (es : List GE) (at0 e0 : Nat), i = .int .i64 (k5 : Int) ∧ 65 - k5 ≤ gg ∧ k5 ≤ 64 ∧ es.length = k5 ∧ Hid (GS w.heap.size gb bw w.heap.size wr (.slice (some ⟨b, off, none⟩) n c) pv bv nv ev P Q rs ns es at0 e0) ∧ Hid (Below w.heap.size w wr) ∧ Hid (e0 ≤ 100) ∧ Hid (Gd xs res at0 e0 (contE P Q ns es (ne - k5))))
            case atStart => exact ⟨0, _, [], at1, e1, rfl, by omega, by omega, rfl, HS1.out, HB1.out, HE1.out, HG1.out⟩
            case round =>
              clear HS1 HB1 HE1 HG1 hg
              obtain ⟨k5, ev, es, at0, e0, rfl, hg, hk5, hes, HS, HB, HE, HG⟩ := hrel
              have d2 : wr.cell? ⟨bw, 2, none⟩ = some (.int .i64 (e0 : Int)) := rowOf_cell HS.out.wbox.row 2
              by_cases hgo : k5 < ne ∧ e0 = 0
              · obtain ⟨hlt5, rfl⟩ := hgo
                have hlz5 : (k5 : Int) < (ne : Int) := by omega
                have hgq := HG.out
                rw [show ne - k5 = (ne - (k5 + 1)) + 1 by omega, contE_step] at hgq
                have HG0 := Lib.hid hgq
                have hbl := HS.out.wbox.lt
                have hyr : rowOf (wr.alloc (.cells #[.int .i64 0, .int .i64 0, .int .i64 0, .bool false] 58)) wr.heap.size = some #[.int .i64 0, .int .i64 0, .int .i64 0, .bool false] := rowOf_alloc_at _ _ _ rfl
                have HR0 := Lib.hid hyr
                have HM0 := Lib.hid ((Nb2.refl wr.heap.size bw wr).alloc (Nat.le_refl _) (.cells #[.int .i64 0, .int .i64 0, .int .i64 0, .bool false] 58))
                have HW0 := Lib.hid (HS.out.wbox.alloc (.cells #[.int .i64 0, .int .i64 0, .int .i64 0, .bool false] 58))
                have HB0 := Lib.hid (HB.out.alloc HB.out.size (.cells #[.int .i64 0, .int .i64 0, .int .i64 0, .bool false] 58))
                have HE0 := Lib.hid HE.out
                clear hgq HG hyr HE
                have HC := Lib.hid (HNum.out bw at0 0 0 topN 2 (fun (a : Nat) (r : List Int) => andR (numR 0 topN 2 r) fun (d : Nat) (r : List Int) => andR (numR 0 topN 2 r) fun (f : Nat) (r : List Int) => andR (numR 0 1 4 r) fun (x : Nat) (r : List Int) => contE P Q ns (es ++ [GE.mk (a : Int) (d : Int) (f : Int) (x == 1)]) (ne - (k5 + 1)) r) (wr.alloc (.cells #[.int .i64 0, .int .i64 0, .int .i64 0, .bool false] 58)) HW0.out HB0.out (by decide) (by decide) (by decide) (by decide) HE0.out HG0.out)
                go_wp2_with fail
                refine (HC.out).mono ?_
                rintro ee wn0 ⟨b1, at1, e1, rfl, hb1, hl1, he1, hnb, hwb, hg1⟩
                have hr1 := hnb.row HR0.out (show wr.heap.size ≠ bw by omega)
                have y0 : wn0.cell? ⟨wr.heap.size, 0, none⟩ = some (.int .i64 0) := rowOf_cell hr1 0
                have z0 := rowOf_frozen hr1 0
                have hrs : rowOf (wn0.setCell ⟨wr.heap.size, 0, none⟩ (.int .i64 (b1 : Int))) wr.heap.size = some #[.int .i64 (b1 : Int), .int .i64 0, .int .i64 0, .bool false] := by rw [rowOf_setCell_same, hr1]; rfl
                have HR1 := Lib.hid hrs
                have HM1 := Lib.hid ((HM0.out.nb hnb).set (i := 0) (Nat.le_refl _) (.int .i64 (b1 : Int)))
                have HW1 := Lib.hid (hwb.other (k := wr.heap.size) (i := 0) (u := .int .i64 (b1 : Int)) (show bw ≠ wr.heap.size by omega))
                have HB1 := Lib.hid (HM1.out.below HB.out HS.out.hw HB.out.size)
                have HG1 := Lib.hid hg1; have HE1 := Lib.hid he1
                clear hr1 hrs hnb hwb hg1 HC HR0 HM0 HW0 HB0 HG0 HE0 hl1 he1 d2
                have HC := Lib.hid (HNum.out bw at1 e1 0 topN 2 (fun (d : Nat) (r : List Int) => andR (numR 0 topN 2 r) fun (f : Nat) (r : List Int) => andR (numR 0 1 4 r) fun (x : Nat) (r : List Int) => contE P Q ns (es ++ [GE.mk (b1 : Int) (d : Int) (f : Int) (x == 1)]) (ne - (k5 + 1)) r) (wn0.setCell ⟨wr.heap.size, 0, none⟩ (.int .i64 (b1 : Int))) HW1.out HB1.out (by decide) (by decide) (by decide) (by decide) HE1.out HG1.out)
                go_wp2_with fail
                refine (HC.out).mono ?_
                rintro ee wn1 ⟨b2, at2, e2, rfl, hb2, hl2, he2, hnb, hwb, hg1⟩
                have hr1 := hnb.row HR1.out (show wr.heap.size ≠ bw by omega)
                have y1 : wn1.cell? ⟨wr.heap.size, 1, none⟩ = some (.int .i64 0) := rowOf_cell hr1 1
                have z1 := rowOf_frozen hr1 1
                have hrs : rowOf (wn1.setCell ⟨wr.heap.size, 1, none⟩ (.int .i64 (b2 : Int))) wr.heap.size = some #[.int .i64 (b1 : Int), .int .i64 (b2 : Int), .int .i64 0, .bool false] := by rw [rowOf_setCell_same, hr1]; rfl
                have HR2 := Lib.hid hrs
                have HM2 := Lib.hid ((HM1.out.nb hnb).set (i := 1) (Nat.le_refl _) (.int .i64 (b2 : Int)))
                have HW2 := Lib.hid (hwb.other (k := wr.heap.size) (i := 1) (u := .int .i64 (b2 : Int)) (show bw ≠ wr.heap.size by omega))
                have HB2 := Lib.hid (HM2.out.below HB.out HS.out.hw HB.out.size)
                have HG2 := Lib.hid hg1; have HE2 := Lib.hid he2
                clear hr1 hrs hnb hwb hg1 HC HR1 HM1 HW1 HB1 HG1 HE1 hl2 he2 y0 z0
                have HC := Lib.hid (HNum.out bw at2 e2 0 topN 2 (fun (f : Nat) (r : List Int) => andR (numR 0 1 4 r) fun (x : Nat) (r : List Int) => contE P Q ns (es ++ [GE.mk (b1 : Int) (b2 : Int) (f : Int) (x == 1)]) (ne - (k5 + 1)) r) (wn1.setCell ⟨wr.heap.size, 1, none⟩ (.int .i64 (b2 : Int))) HW2.out HB2.out (by decide) (by decide) (by decide) (by decide) HE2.out HG2.out)
                go_wp2_with fail
                refine (HC.out).mono ?_
                rintro ee wn2 ⟨b3, at3, e3, rfl, hb3, hl3, he3, hnb, hwb, hg1⟩
                have hr1 := hnb.row HR2.out (show wr.heap.size ≠ bw by omega)
                have y2 : wn2.cell? ⟨wr.heap.size, 2, none⟩ = some (.int .i64 0) := rowOf_cell hr1 2
                have z2 := rowOf_frozen hr1 2
                have hrs : rowOf (wn2.setCell ⟨wr.heap.size, 2, none⟩ (.int .i64 (b3 : Int))) wr.heap.size = some #[.int .i64 (b1 : Int), .int .i64 (b2 : Int), .int .i64 (b3 : Int), .bool false] := by rw [rowOf_setCell_same, hr1]; rfl
                have HR3 := Lib.hid hrs
                have HM3 := Lib.hid ((HM2.out.nb hnb).set (i := 2) (Nat.le_refl _) (.int .i64 (b3 : Int)))
                have HW3 := Lib.hid (hwb.other (k := wr.heap.size) (i := 2) (u := .int .i64 (b3 : Int)) (show bw ≠ wr.heap.size by omega))
                have HB3 := Lib.hid (HM3.out.below HB.out HS.out.hw HB.out.size)
                have HG3 := Lib.hid hg1; have HE3 := Lib.hid he3
                clear hr1 hrs hnb hwb hg1 HC HR2 HM2 HW2 HB2 HG2 HE2 hl3 he3 y1 z1
                have HC := Lib.hid (HNum.out bw at3 e3 0 1 4 (fun (x : Nat) (r : List Int) => contE P Q ns (es ++ [GE.mk (b1 : Int) (b2 : Int) (b3 : Int) (x == 1)]) (ne - (k5 + 1)) r) (wn2.setCell ⟨wr.heap.size, 2, none⟩ (.int .i64 (b3 : Int))) HW3.out HB3.out (by decide) (by decide) (by decide) (by decide) HE3.out HG3.out)
                go_wp2_with fail
                refine (HC.out).mono ?_
                rintro ee wn3 ⟨b4, at4, e4, rfl, hb4, hl4, he4, hnb, hwb, hg1⟩
                have h41 : (((b4 : Nat) : Int) == 1) = (b4 == 1) := by
                  rcases (by omega : b4 = 0 ∨ b4 = 1) with rfl | rfl <;> rfl
                have hr1 := hnb.row HR3.out (show wr.heap.size ≠ bw by omega)
                have y3 : wn3.cell? ⟨wr.heap.size, 3, none⟩ = some (.bool false) := rowOf_cell hr1 3
                have z3 := rowOf_frozen hr1 3
                have hrs : rowOf (wn3.setCell ⟨wr.heap.size, 3, none⟩ (.bool (b4 == 1))) wr.heap.size = some #[.int .i64 (b1 : Int), .int .i64 (b2 : Int), .int .i64 (b3 : Int), .bool (b4 == 1)] := by rw [rowOf_setCell_same, hr1]; rfl
                have HR4 := Lib.hid hrs
                have HM4 := Lib.hid ((HM3.out.nb hnb).set (i := 3) (Nat.le_refl _) (.bool (b4 == 1)))
                have HW4 := Lib.hid (hwb.other (k := wr.heap.size) (i := 3) (u := .bool (b4 == 1)) (show bw ≠ wr.heap.size by omega))
                have HB4 := Lib.hid (HM4.out.below HB.out HS.out.hw HB.out.size)
                have HG4 := Lib.hid hg1; have HE4 := Lib.hid he4
                clear hr1 hrs hnb hwb hg1 HC HR3 HM3 HW3 HB3 HG3 HE3 hl4 he4 y2 z2
                have HS4 := Lib.hid (HS.out.nb2 HM4.out HW4.out)
                go_upto_region 45 with (fail)
                refine gen_world (fun W => GS w.heap.size gb bw w.heap.size W (.slice (some ⟨b, off, none⟩) n c) pv bv nv ev P Q rs ns es at4 e4 ∧ Below w.heap.size w W ∧ rowOf W wr.heap.size = some #[.int .i64 (b1 : Int), .int .i64 (b2 : Int), .int .i64 (b3 : Int), .bool (b4 == 1)]) ⟨HS4.out, HB4.out, HR4.out⟩ ?_
                rintro w5 ⟨hS5, hB5, hy5⟩
                clear HS4 HB4 HR4 HM4 HW4 y3 z3 HS HB
                generalize wr.heap.size = yb at *
                generalize (b4 == 1) = bb at *
                have y0 : w5.cell? ⟨yb, 0, none⟩ = some (.int .i64 (b1 : Int)) := rowOf_cell hy5 0
                have y1 : w5.cell? ⟨yb, 1, none⟩ = some (.int .i64 (b2 : Int)) := rowOf_cell hy5 1
                have y2 : w5.cell? ⟨yb, 2, none⟩ = some (.int .i64 (b3 : Int)) := rowOf_cell hy5 2
                have y3 : w5.cell? ⟨yb, 3, none⟩ = some (.bool bb) := rowOf_cell hy5 3
                have x3 : w5.cell? ⟨gb, 3, none⟩ = some ev := rowOf_cell hS5.grow 3
                have HS5 := Lib.hid hS5; have HB5 := Lib.hid hB5
                clear hS5 hB5 hy5 hbl h41
                go_wp2_with (at_builtin; refine RowKind.Own.append (R := RE) (w := w5.alloc (.cells (RE.enc ⟨b1, b2, b3, bb⟩).toArray 58)) rfl _ _ rfl (HS5.out.alloc _).edg rfl [(⟨b1, b2, b3, bb⟩ : GE)] rfl (RowKind.Row.app (ys := [(⟨b1, b2, b3, bb⟩ : GE)]) (RowKind.Row.new (R := RE) w5 (⟨b1, b2, b3, bb⟩ : GE) 58)) (by rw [List.length_singleton]; omega) (Nat.le_trans HS5.out.size (by simp)) ?_; intro v6 w6 hO6 hg6; have hSa := HS5.out.alloc (.cells (RE.enc ⟨b1, b2, b3, bb⟩).toArray 58); have hrow := (rowOf_block (hSa.tg.grown hSa.edg hg6 (by decide))).trans hSa.grow; have d6 : w6.cell? ⟨gb, 3, none⟩ = some ev := rowOf_cell hrow 3; have f6 := rowOf_frozen hrow 3; have HS6 := Lib.hid (hSa.setE hg6 hO6); have hlt6 := hSa.edg.lt; have HB6 := Lib.hid (((HB5.out.alloc HB5.out.size (.cells (RE.enc ⟨b1, b2, b3, bb⟩).toArray 58)).grown hg6 (Nat.le_trans HB5.out.size (by simp)) (fun k hk => (hlt6 k hk).1)).setCell (p := ⟨gb, 3, none⟩) HS5.out.hg v6); obtain ⟨p6, c6, rfl⟩ := hO6.is.slice; clear hrow hlt6 hO6 hg6 hSa; generalize hln : (es ++ [(⟨b1, b2, b3, bb⟩ : GE)]).length = ln at *)
                go_roundg (65 - (k5 + 1))
                case measure => omega
                case rel => exact ⟨k5 + 1, _, _, at4, e4, by go_num, by omega, by omega, by rw [List.length_append, hes]; rfl, HS6.out, HB6.out, HE4.out, HG4.out⟩
              · by_cases hlt5 : k5 < ne
                · have hlz5 : (k5 : Int) < (ne : Int) := by omega
                  have he0 : e0 ≠ 0 := fun q => hgo ⟨hlt5, q⟩
                  have heb : ((e0 : Int) == 0) = false := by simp; omega
                  have HGx := Lib.hid (HG.out.bad he0 (contF ⟨P, Q, ns, es⟩))
                  clear HG hgo
                  have d1 : wr.cell? ⟨bw, 1, none⟩ = some (.int .i64 (at0 : Int)) := rowOf_cell HS.out.wbox.row 1
                  have f2 := rowOf_frozen HS.out.wbox.row 2
                  have hle := HGx.out.1
                  rw [HXn.out] at hle
                  have N_r : rowOf wr w.heap.size = some #[.slice none 0 0, .slice none 0 0, .slice none 0 0, .slice none 0 0] := HS.out.rrow
                  have L_r := rowOf_lt N_r
                  have r0 : wr.cell? ⟨w.heap.size, 0, none⟩ = some (.slice none 0 0) := rowOf_cell HS.out.rrow 0
                  have r1 : wr.cell? ⟨w.heap.size, 1, none⟩ = some (.slice none 0 0) := rowOf_cell HS.out.rrow 1
                  have r2 : wr.cell? ⟨w.heap.size, 2, none⟩ = some (.slice none 0 0) := rowOf_cell HS.out.rrow 2
                  have r3 : wr.cell? ⟨w.heap.size, 3, none⟩ = some (.slice none 0 0) := rowOf_cell HS.out.rrow 3
                  have q0 := rowOf_frozen HS.out.rrow 0
                  have q1 := rowOf_frozen HS.out.rrow 1
                  have q2 := rowOf_frozen HS.out.rrow 2
                  have q3 := rowOf_frozen HS.out.rrow 3
                  clear N_r L_r
                  have hnr : bw ≠ w.heap.size := HS.out.tw.ne HS.out.tr (by decide)
                  have hnr2 : w.heap.size ≠ bw := fun e => hnr e.symm
                  have hwb := HS.out.hw
                  have heb2 : ((e0 : Int) == 0) = false := by simp; omega
                  have heb3 : ((e0 : Int) != 0) = true := by simp; omega
                  have hres := (HGx.out.2.resolve_left (fun q => he0 q.1)).2
                  subst hres
                  have HE9 := Lib.hid he0
                  clear HGx HLt HEnd HNum HSgn he0
                  go_wp2_with fail
                  rw [← HQ9.out]
                  go_region_law (fail)
                  all_goals rw [HQ9.out]
                  all_goals try simp only [List.getElem_toArray, List.getElem_cons_succ, List.getElem_cons_zero, Act.put, List.setIfInBounds_toArray, List.set_cons_zero, List.set_cons_succ]
                  all_goals go_wp2_with fail
                  all_goals rw [← HQ9.out]
                  all_goals exact bodyPost_ret (v := .tuple #[noG, .int .i64 (e0 : Int)]) (by simp [results, Try.results15, go_sem, r0, r1, r2, r3]) rfl ⟨(by repeat' (first | exact HB.out | apply Below.drew | refine Below.setCell ?_ (by first | exact hwb | exact Nat.le_refl _) _)), .inr ⟨e0, rfl, HE9.out, HE.out, rfl⟩⟩
                · have hlz5 : ¬ (k5 : Int) < (ne : Int) := by omega
                  have hgq := HG.out
                  rw [show ne - k5 = 0 by omega, contE_end] at hgq
                  have HGx := Lib.hid hgq
                  clear HG hgo hgq
                  have d1 : wr.cell? ⟨bw, 1, none⟩ = some (.int .i64 (at0 : Int)) := rowOf_cell HS.out.wbox.row 1
                  have f2 := rowOf_frozen HS.out.wbox.row 2
                  have hle := HGx.out.1
                  rw [HXn.out] at hle
                  have N_r : rowOf wr w.heap.size = some #[.slice none 0 0, .slice none 0 0, .slice none 0 0, .slice none 0 0] := HS.out.rrow
                  have L_r := rowOf_lt N_r
                  have r0 : wr.cell? ⟨w.heap.size, 0, none⟩ = some (.slice none 0 0) := rowOf_cell HS.out.rrow 0
                  have r1 : wr.cell? ⟨w.heap.size, 1, none⟩ = some (.slice none 0 0) := rowOf_cell HS.out.rrow 1
                  have r2 : wr.cell? ⟨w.heap.size, 2, none⟩ = some (.slice none 0 0) := rowOf_cell HS.out.rrow 2
                  have r3 : wr.cell? ⟨w.heap.size, 3, none⟩ = some (.slice none 0 0) := rowOf_cell HS.out.rrow 3
                  have q0 := rowOf_frozen HS.out.rrow 0
                  have q1 := rowOf_frozen HS.out.rrow 1
                  have q2 := rowOf_frozen HS.out.rrow 2
                  have q3 := rowOf_frozen HS.out.rrow 3
                  clear N_r L_r
                  have hnr : bw ≠ w.heap.size := HS.out.tw.ne HS.out.tr (by decide)
                  have hnr2 : w.heap.size ≠ bw := fun e => hnr e.symm
                  have hwb := HS.out.hw
                  by_cases he0 : e0 = 0
                  · subst he0
                    have hgd := HGx.out.good
                    unfold contF at hgd
                    by_cases hat : at0 < n
                    · rw [if_neg (HLt.out at0 hat)] at hgd
                      subst hgd
                      have haz : (at0 : Int) < (n : Int) := by omega
                      clear HGx HLt HEnd HNum HSgn
                      go_upto_region 49 with (fail)
                      have m2 : (wr.setCell ⟨bw, 2, none⟩ (.int .i64 4)).cell? ⟨bw, 2, none⟩ = some (.int .i64 4) := rowOf_cell (HS.out.wbox.set2 4).row 2
                      have m3 := (rowOf_setCell_other (w := wr) ⟨bw, 2, none⟩ w.heap.size (.int .i64 4) hnr2).trans HS.out.rrow
                      refine gen_world (fun W => W.cell? ⟨bw, 2, none⟩ = some (.int .i64 4) ∧ rowOf W w.heap.size = some zeroG ∧ Below w.heap.size w W) ⟨m2, m3, HB.out.setCell hwb _⟩ ?_
                      clear d1 d2 f2 r0 r1 r2 r3 q0 q1 q2 q3 m2 m3 HB
                      rintro w9 ⟨d2, N_9, hB9⟩
                      have HB := Lib.hid hB9
                      clear hB9
                      have r0 : w9.cell? ⟨w.heap.size, 0, none⟩ = some (.slice none 0 0) := rowOf_cell N_9 0
                      have r1 : w9.cell? ⟨w.heap.size, 1, none⟩ = some (.slice none 0 0) := rowOf_cell N_9 1
                      have r2 : w9.cell? ⟨w.heap.size, 2, none⟩ = some (.slice none 0 0) := rowOf_cell N_9 2
                      have r3 : w9.cell? ⟨w.heap.size, 3, none⟩ = some (.slice none 0 0) := rowOf_cell N_9 3
                      have q0 := rowOf_frozen N_9 0
                      have q1 := rowOf_frozen N_9 1
                      have q2 := rowOf_frozen N_9 2
                      have q3 := rowOf_frozen N_9 3
                      clear N_9
                      go_wp2_with fail
                      rw [← HQ9.out]
                      go_region_law (fail)
                      all_goals rw [HQ9.out]
                      all_goals try simp only [List.getElem_toArray, List.getElem_cons_succ, List.getElem_cons_zero, Act.put, List.setIfInBounds_toArray, List.set_cons_zero, List.set_cons_succ]
                      all_goals go_wp2_with fail
                      all_goals rw [← HQ9.out]
                      all_goals exact bodyPost_ret (v := .tuple #[noG, .int .i64 (4 : Int)]) (by simp [results, Try.results15, go_sem, r0, r1, r2, r3]) rfl ⟨(by repeat' (first | exact HB.out | apply Below.drew | refine Below.setCell ?_ (by first | exact hwb | exact Nat.le_refl _) _)), .inr ⟨4, rfl, by decide, by decide, rfl⟩⟩
                    · obtain rfl : at0 = n := by omega
                      rw [HEnd.out, if_pos rfl] at hgd
                      subst hgd
                      have haz : ¬ (at0 : Int) < (at0 : Int) := by omega
                      obtain ⟨pp1, cc1, rfl⟩ := HS.out.par.is.slice
                      obtain ⟨pp2, cc2, rfl⟩ := HS.out.bnd.is.slice
                      obtain ⟨pp3, cc3, rfl⟩ := HS.out.nod.is.slice
                      obtain ⟨pp4, cc4, rfl⟩ := HS.out.edg.is.slice
                      have t0 : wr.cell? ⟨gb, 0, none⟩ = some _ := rowOf_cell HS.out.grow 0
                      have t1 : wr.cell? ⟨gb, 1, none⟩ = some _ := rowOf_cell HS.out.grow 1
                      have t2 : wr.cell? ⟨gb, 2, none⟩ = some _ := rowOf_cell HS.out.grow 2
                      have t3 : wr.cell? ⟨gb, 3, none⟩ = some _ := rowOf_cell HS.out.grow 3
                      have hng : gb ≠ w.heap.size := fun e => HS.out.ne e.symm
                      have HIG := Lib.hid (fun W (hW : Nb w.heap.size wr W) => HS.out.isGr hW)
                      clear HGx HLt HEnd HNum HSgn
                      go_wp2_with fail
                      rw [← HQ9.out]
                      exact bodyPost_ret (v := .tuple #[.agg #[.slice pp1 _ cc1, .slice pp2 _ cc2, .slice pp3 _ cc3, .slice pp4 _ cc4], .int .i64 0]) (by simp [results, Try.results15, go_sem, r0, r1, r2, r3, hP, hQ, hes]) rfl ⟨(by repeat' (first | exact HB.out | apply Below.drew | refine Below.setCell ?_ (by first | exact hwb | exact Nat.le_refl _) _)), .inl ⟨_, _, rfl, rfl, HIG.out _ (by repeat' (first | exact Nb.refl _ _ | apply Nb.set))⟩⟩
                  · have heb2 : ((e0 : Int) == 0) = false := by simp; omega
                    have heb3 : ((e0 : Int) != 0) = true := by simp; omega
                    have hres := (HGx.out.2.resolve_left (fun q => he0 q.1)).2
                    subst hres
                    have HE9 := Lib.hid he0
                    clear HGx HLt HEnd HNum HSgn he0
                    go_wp2_with fail
                    rw [← HQ9.out]
                    go_region_law (fail)
                    all_goals rw [HQ9.out]
                    all_goals try simp only [List.getElem_toArray, List.getElem_cons_succ, List.getElem_cons_zero, Act.put, List.setIfInBounds_toArray, List.set_cons_zero, List.set_cons_succ]
                    all_goals go_wp2_with fail
                    all_goals rw [← HQ9.out]
                    all_goals exact bodyPost_ret (v := .tuple #[noG, .int .i64 (e0 : Int)]) (by simp [results, Try.results15, go_sem, r0, r1, r2, r3]) rfl ⟨(by repeat' (first | exact HB.out | apply Below.drew | refine Below.setCell ?_ (by first | exact hwb | exact Nat.le_refl _) _)), .inr ⟨e0, rfl, HE9.out, HE.out, rfl⟩⟩
          · have hlz : ¬ (k : Int) < (nn : Int) := by omega
            have hgq := HG.out
            rw [show nn - k = 0 by omega, contN_end] at hgq
            have HGx := Lib.hid hgq
            clear hgo hgq
            have HC := Lib.hid (HNum.out bw at0 e0 0 64 11 (fun (m : Nat) (r : List Int) => contE P Q ns [] m r) wr HS.out.wbox HB.out (by decide) (by decide) (by decide) (by decide) HE.out HGx.out)
            clear HG HGx
            go_wp2_with fail
            refine (HC.out).mono ?_
            rintro ee wn ⟨ne, at1, e1, rfl, hne, hl1, he1, hnb1, hwb1, hg1⟩
            have HS1 := Lib.hid (HS.out.nb2 hnb1.nb2 hwb1); have HB1 := Lib.hid (hnb1.below HB.out HS.out.hw); have HG1 := Lib.hid hg1; have HE1 := Lib.hid he1
            clear hnb1 hwb1 hg1 HC HS HB HE hl1 he1 d2
            go_wp2_with fail
            go_loopg [17] 66 (fun gg i wr => ∃ (k5 : Nat) (ev : Value) (es : List GE) (at0 e0 : Nat), i = .int .i64 (k5 : Int) ∧ 65 - k5 ≤ gg ∧ k5 ≤ 64 ∧ es.length = k5 ∧ Hid (GS w.heap.size gb bw w.heap.size wr (.slice (some ⟨b, off, none⟩) n c) pv bv nv ev P Q rs ns es at0 e0) ∧ Hid (Below w.heap.size w wr) ∧ Hid (e0 ≤ 100) ∧ Hid (Gd xs res at0 e0 (contE P Q ns es (ne - k5))))
            case atStart => exact ⟨0, _, [], at1, e1, rfl, by omega, by omega, rfl, HS1.out, HB1.out, HE1.out, HG1.out⟩
            case round =>
              clear HS1 HB1 HE1 HG1 hg
              obtain ⟨k5, ev, es, at0, e0, rfl, hg, hk5, hes, HS, HB, HE, HG⟩ := hrel
              have d2 : wr.cell? ⟨bw, 2, none⟩ = some (.int .i64 (e0 : Int)) := rowOf_cell HS.out.wbox.row 2
              by_cases hgo : k5 < ne ∧ e0 = 0
              · obtain ⟨hlt5, rfl⟩ := hgo
                have hlz5 : (k5 : Int) < (ne : Int) := by omega
                have hgq := HG.out
                rw [show ne - k5 = (ne - (k5 + 1)) + 1 by omega, contE_step] at hgq
                have HG0 := Lib.hid hgq
                have hbl := HS.out.wbox.lt
                have hyr : rowOf (wr.alloc (.cells #[.int .i64 0, .int .i64 0, .int .i64 0, .bool false] 58)) wr.heap.size = some #[.int .i64 0, .int .i64 0, .int .i64 0, .bool false] := rowOf_alloc_at _ _ _ rfl
                have HR0 := Lib.hid hyr
                have HM0 := Lib.hid ((Nb2.refl wr.heap.size bw wr).alloc (Nat.le_refl _) (.cells #[.int .i64 0, .int .i64 0, .int .i64 0, .bool false] 58))
                have HW0 := Lib.hid (HS.out.wbox.alloc (.cells #[.int .i64 0, .int .i64 0, .int .i64 0, .bool false] 58))
                have HB0 := Lib.hid (HB.out.alloc HB.out.size (.cells #[.int .i64 0, .int .i64 0, .int .i64 0, .bool false] 58))
                have HE0 := Lib.hid HE.out
                clear hgq HG hyr HE
                have HC := Lib.hid (HNum.out bw at0 0 0 topN 2 (fun (a : Nat) (r : List Int) => andR (numR 0 topN 2 r) fun (d : Nat) (r : List Int) => andR (numR 0 topN 2 r) fun (f : Nat) (r : List Int) => andR (numR 0 1 4 r) fun (x : Nat) (r : List Int) => contE P Q ns (es ++ [GE.mk (a : Int) (d : Int) (f : Int) (x == 1)]) (ne - (k5 + 1)) r) (wr.alloc (.cells #[.int .i64 0, .int .i64 0, .int .i64 0, .bool false] 58)) HW0.out HB0.out (by decide) (by decide) (by decide) (by decide) HE0.out HG0.out)
                go_wp2_with fail
                refine (HC.out).mono ?_
                rintro ee wn0 ⟨b1, at1, e1, rfl, hb1, hl1, he1, hnb, hwb, hg1⟩
                have hr1 := hnb.row HR0.out (show wr.heap.size ≠ bw by omega)
                have y0 : wn0.cell? ⟨wr.heap.size, 0, none⟩ = some (.int .i64 0) := rowOf_cell hr1 0
                have z0 := rowOf_frozen hr1 0
                have hrs : rowOf (wn0.setCell ⟨wr.heap.size, 0, none⟩ (.int .i64 (b1 : Int))) wr.heap.size = some #[.int .i64 (b1 : Int), .int .i64 0, .int .i64 0, .bool false] := by rw [rowOf_setCell_same, hr1]; rfl
                have HR1 := Lib.hid hrs
                have HM1 := Lib.hid ((HM0.out.nb hnb).set (i := 0) (Nat.le_refl _) (.int .i64 (b1 : Int)))
                have HW1 := Lib.hid (hwb.other (k := wr.heap.size) (i := 0) (u := .int .i64 (b1 : Int)) (show bw ≠ wr.heap.size by omega))
                have HB1 := Lib.hid (HM1.out.below HB.out HS.out.hw HB.out.size)
                have HG1 := Lib.hid hg1; have HE1 := Lib.hid he1
                clear hr1 hrs hnb hwb hg1 HC HR0 HM0 HW0 HB0 HG0 HE0 hl1 he1 d2
                have HC := Lib.hid (HNum.out bw at1 e1 0 topN 2 (fun (d : Nat) (r : List Int) => andR (numR 0 topN 2 r) fun (f : Nat) (r : List Int) => andR (numR 0 1 4 r) fun (x : Nat) (r : List Int) => contE P Q ns (es ++ [GE.mk (b1 : Int) (d : Int) (f : Int) (x == 1)]) (ne - (k5 + 1)) r) (wn0.setCell ⟨wr.heap.size, 0, none⟩ (.int .i64 (b1 : Int))) HW1.out HB1.out (by decide) (by decide) (by decide) (by decide) HE1.out HG1.out)
                go_wp2_with fail
                refine (HC.out).mono ?_
                rintro ee wn1 ⟨b2, at2, e2, rfl, hb2, hl2, he2, hnb, hwb, hg1⟩
                have hr1 := hnb.row HR1.out (show wr.heap.size ≠ bw by omega)
                have y1 : wn1.cell? ⟨wr.heap.size, 1, none⟩ = some (.int .i64 0) := rowOf_cell hr1 1
                have z1 := rowOf_frozen hr1 1
                have hrs : rowOf (wn1.setCell ⟨wr.heap.size, 1, none⟩ (.int .i64 (b2 : Int))) wr.heap.size = some #[.int .i64 (b1 : Int), .int .i64 (b2 : Int), .int .i64 0, .bool false] := by rw [rowOf_setCell_same, hr1]; rfl
                have HR2 := Lib.hid hrs
                have HM2 := Lib.hid ((HM1.out.nb hnb).set (i := 1) (Nat.le_refl _) (.int .i64 (b2 : Int)))
                have HW2 := Lib.hid (hwb.other (k := wr.heap.size) (i := 1) (u := .int .i64 (b2 : Int)) (show bw ≠ wr.heap.size by omega))
                have HB2 := Lib.hid (HM2.out.below HB.out HS.out.hw HB.out.size)
                have HG2 := Lib.hid hg1; have HE2 := Lib.hid he2
                clear hr1 hrs hnb hwb hg1 HC HR1 HM1 HW1 HB1 HG1 HE1 hl2 he2 y0 z0
                have HC := Lib.hid (HNum.out bw at2 e2 0 topN 2 (fun (f : Nat) (r : List Int) => andR (numR 0 1 4 r) fun (x : Nat) (r : List Int) => contE P Q ns (es ++ [GE.mk (b1 : Int) (b2 : Int) (f : Int) (x == 1)]) (ne - (k5 + 1)) r) (wn1.setCell ⟨wr.heap.size, 1, none⟩ (.int .i64 (b2 : Int))) HW2.out HB2.out (by decide) (by decide) (by decide) (by decide) HE2.out HG2.out)
                go_wp2_with fail
                refine (HC.out).mono ?_
                rintro ee wn2 ⟨b3, at3, e3, rfl, hb3, hl3, he3, hnb, hwb, hg1⟩
                have hr1 := hnb.row HR2.out (show wr.heap.size ≠ bw by omega)
                have y2 : wn2.cell? ⟨wr.heap.size, 2, none⟩ = some (.int .i64 0) := rowOf_cell hr1 2
                have z2 := rowOf_frozen hr1 2
                have hrs : rowOf (wn2.setCell ⟨wr.heap.size, 2, none⟩ (.int .i64 (b3 : Int))) wr.heap.size = some #[.int .i64 (b1 : Int), .int .i64 (b2 : Int), .int .i64 (b3 : Int), .bool false] := by rw [rowOf_setCell_same, hr1]; rfl
                have HR3 := Lib.hid hrs
                have HM3 := Lib.hid ((HM2.out.nb hnb).set (i := 2) (Nat.le_refl _) (.int .i64 (b3 : Int)))
                have HW3 := Lib.hid (hwb.other (k := wr.heap.size) (i := 2) (u := .int .i64 (b3 : Int)) (show bw ≠ wr.heap.size by omega))
                have HB3 := Lib.hid (HM3.out.below HB.out HS.out.hw HB.out.size)
                have HG3 := Lib.hid hg1; have HE3 := Lib.hid he3
                clear hr1 hrs hnb hwb hg1 HC HR2 HM2 HW2 HB2 HG2 HE2 hl3 he3 y1 z1
                have HC := Lib.hid (HNum.out bw at3 e3 0 1 4 (fun (x : Nat) (r : List Int) => contE P Q ns (es ++ [GE.mk (b1 : Int) (b2 : Int) (b3 : Int) (x == 1)]) (ne - (k5 + 1)) r) (wn2.setCell ⟨wr.heap.size, 2, none⟩ (.int .i64 (b3 : Int))) HW3.out HB3.out (by decide) (by decide) (by decide) (by decide) HE3.out HG3.out)
                go_wp2_with fail
                refine (HC.out).mono ?_
                rintro ee wn3 ⟨b4, at4, e4, rfl, hb4, hl4, he4, hnb, hwb, hg1⟩
                have h41 : (((b4 : Nat) : Int) == 1) = (b4 == 1) := by
                  rcases (by omega : b4 = 0 ∨ b4 = 1) with rfl | rfl <;> rfl
                have hr1 := hnb.row HR3.out (show wr.heap.size ≠ bw by omega)
                have y3 : wn3.cell? ⟨wr.heap.size, 3, none⟩ = some (.bool false) := rowOf_cell hr1 3
                have z3 := rowOf_frozen hr1 3
                have hrs : rowOf (wn3.setCell ⟨wr.heap.size, 3, none⟩ (.bool (b4 == 1))) wr.heap.size = some #[.int .i64 (b1 : Int), .int .i64 (b2 : Int), .int .i64 (b3 : Int), .bool (b4 == 1)] := by rw [rowOf_setCell_same, hr1]; rfl
                have HR4 := Lib.hid hrs
                have HM4 := Lib.hid ((HM3.out.nb hnb).set (i := 3) (Nat.le_refl _) (.bool (b4 == 1)))
                have HW4 := Lib.hid (hwb.other (k := wr.heap.size) (i := 3) (u := .bool (b4 == 1)) (show bw ≠ wr.heap.size by omega))
                have HB4 := Lib.hid (HM4.out.below HB.out HS.out.hw HB.out.size)
                have HG4 := Lib.hid hg1; have HE4 := Lib.hid he4
                clear hr1 hrs hnb hwb hg1 HC HR3 HM3 HW3 HB3 HG3 HE3 hl4 he4 y2 z2
                have HS4 := Lib.hid (HS.out.nb2 HM4.out HW4.out)
                go_upto_region 45 with (fail)
                refine gen_world (fun W => GS w.heap.size gb bw w.heap.size W (.slice (some ⟨b, off, none⟩) n c) pv bv nv ev P Q rs ns es at4 e4 ∧ Below w.heap.size w W ∧ rowOf W wr.heap.size = some #[.int .i64 (b1 : Int), .int .i64 (b2 : Int), .int .i64 (b3 : Int), .bool (b4 == 1)]) ⟨HS4.out, HB4.out, HR4.out⟩ ?_
                rintro w5 ⟨hS5, hB5, hy5⟩
                clear HS4 HB4 HR4 HM4 HW4 y3 z3 HS HB
                generalize wr.heap.size = yb at *
                generalize (b4 == 1) = bb at *
                have y0 : w5.cell? ⟨yb, 0, none⟩ = some (.int .i64 (b1 : Int)) := rowOf_cell hy5 0
                have y1 : w5.cell? ⟨yb, 1, none⟩ = some (.int .i64 (b2 : Int)) := rowOf_cell hy5 1
                have y2 : w5.cell? ⟨yb, 2, none⟩ = some (.int .i64 (b3 : Int)) := rowOf_cell hy5 2
                have y3 : w5.cell? ⟨yb, 3, none⟩ = some (.bool bb) := rowOf_cell hy5 3
                have x3 : w5.cell? ⟨gb, 3, none⟩ = some ev := rowOf_cell hS5.grow 3
                have HS5 := Lib.hid hS5; have HB5 := Lib.hid hB5
                clear hS5 hB5 hy5 hbl h41
                go_wp2_with (at_builtin; refine RowKind.Own.append (R := RE) (w := w5.alloc (.cells (RE.enc ⟨b1, b2, b3, bb⟩).toArray 58)) rfl _ _ rfl (HS5.out.alloc _).edg rfl [(⟨b1, b2, b3, bb⟩ : GE)] rfl (RowKind.Row.app (ys := [(⟨b1, b2, b3, bb⟩ : GE)]) (RowKind.Row.new (R := RE) w5 (⟨b1, b2, b3, bb⟩ : GE) 58)) (by rw [List.length_singleton]; omega) (Nat.le_trans HS5.out.size (by simp)) ?_; intro v6 w6 hO6 hg6; have hSa := HS5.out.alloc (.cells (RE.enc ⟨b1, b2, b3, bb⟩).toArray 58); have hrow := (rowOf_block (hSa.tg.grown hSa.edg hg6 (by decide))).trans hSa.grow; have d6 : w6.cell? ⟨gb, 3, none⟩ = some ev := rowOf_cell hrow 3; have f6 := rowOf_frozen hrow 3; have HS6 := Lib.hid (hSa.setE hg6 hO6); have hlt6 := hSa.edg.lt; have HB6 := Lib.hid (((HB5.out.alloc HB5.out.size (.cells (RE.enc ⟨b1, b2, b3, bb⟩).toArray 58)).grown hg6 (Nat.le_trans HB5.out.size (by simp)) (fun k hk => (hlt6 k hk).1)).setCell (p := ⟨gb, 3, none⟩) HS5.out.hg v6); obtain ⟨p6, c6, rfl⟩ := hO6.is.slice; clear hrow hlt6 hO6 hg6 hSa; generalize hln : (es ++ [(⟨b1, b2, b3, bb⟩ : GE)]).length = ln at *)
                go_roundg (65 - (k5 + 1))
                case measure => omega
                case rel => exact ⟨k5 + 1, _, _, at4, e4, by go_num, by omega, by omega, by rw [List.length_append, hes]; rfl, HS6.out, HB6.out, HE4.out, HG4.out⟩
              · by_cases hlt5 : k5 < ne
                · have hlz5 : (k5 : Int) < (ne : Int) := by omega
                  have he0 : e0 ≠ 0 := fun q => hgo ⟨hlt5, q⟩
                  have heb : ((e0 : Int) == 0) = false := by simp; omega
                  have HGx := Lib.hid (HG.out.bad he0 (contF ⟨P, Q, ns, es⟩))
                  clear HG hgo
                  have d1 : wr.cell? ⟨bw, 1, none⟩ = some (.int .i64 (at0 : Int)) := rowOf_cell HS.out.wbox.row 1
                  have f2 := rowOf_frozen HS.out.wbox.row 2
                  have hle := HGx.out.1
                  rw [HXn.out] at hle
                  have N_r : rowOf wr w.heap.size = some #[.slice none 0 0, .slice none 0 0, .slice none 0 0, .slice none 0 0] := HS.out.rrow
                  have L_r := rowOf_lt N_r
                  have r0 : wr.cell? ⟨w.heap.size, 0, none⟩ = some (.slice none 0 0) := rowOf_cell HS.out.rrow 0
                  have r1 : wr.cell? ⟨w.heap.size, 1, none⟩ = some (.slice none 0 0) := rowOf_cell HS.out.rrow 1
                  have r2 : wr.cell? ⟨w.heap.size, 2, none⟩ = some (.slice none 0 0) := rowOf_cell HS.out.rrow 2
                  have r3 : wr.cell? ⟨w.heap.size, 3, none⟩ = some (.slice none 0 0) := rowOf_cell HS.out.rrow 3
                  have q0 := rowOf_frozen HS.out.rrow 0
                  have q1 := rowOf_frozen HS.out.rrow 1
                  have q2 := rowOf_frozen HS.out.rrow 2
                  have q3 := rowOf_frozen HS.out.rrow 3
                  clear N_r L_r
                  have hnr : bw ≠ w.heap.size := HS.out.tw.ne HS.out.tr (by decide)
                  have hnr2 : w.heap.size ≠ bw := fun e => hnr e.symm
                  have hwb := HS.out.hw
                  have heb2 : ((e0 : Int) == 0) = false := by simp; omega
                  have heb3 : ((e0 : Int) != 0) = true := by simp; omega
                  have hres := (HGx.out.2.resolve_left (fun q => he0 q.1)).2
                  subst hres
                  have HE9 := Lib.hid he0
                  clear HGx HLt HEnd HNum HSgn he0
                  go_wp2_with fail
                  rw [← HQ9.out]
                  go_region_law (fail)
                  all_goals rw [HQ9.out]
                  all_goals try simp only [List.getElem_toArray, List.getElem_cons_succ, List.getElem_cons_zero, Act.put, List.setIfInBounds_toArray, List.set_cons_zero, List.set_cons_succ]
                  all_goals go_wp2_with fail
                  all_goals rw [← HQ9.out]
                  all_goals exact bodyPost_ret (v := .tuple #[noG, .int .i64 (e0 : Int)]) (by simp [results, Try.results15, go_sem, r0, r1, r2, r3]) rfl ⟨(by repeat' (first | exact HB.out | apply Below.drew | refine Below.setCell ?_ (by first | exact hwb | exact Nat.le_refl _) _)), .inr ⟨e0, rfl, HE9.out, HE.out, rfl⟩⟩
                · have hlz5 : ¬ (k5 : Int) < (ne : Int) := by omega
                  have hgq := HG.out
                  rw [show ne - k5 = 0 by omega, contE_end] at hgq
                  have HGx := Lib.hid hgq
                  clear HG hgo hgq
                  have d1 : wr.cell? ⟨bw, 1, none⟩ = some (.int .i64 (at0 : Int)) := rowOf_cell HS.out.wbox.row 1
                  have f2 := rowOf_frozen HS.out.wbox.row 2
                  have hle := HGx.out.1
                  rw [HXn.out] at hle
                  have N_r : rowOf wr w.heap.size = some #[.slice none 0 0, .slice none 0 0, .slice none 0 0, .slice none 0 0] := HS.out.rrow
                  have L_r := rowOf_lt N_r
                  have r0 : wr.cell? ⟨w.heap.size, 0, none⟩ = some (.slice none 0 0) := rowOf_cell HS.out.rrow 0
                  have r1 : wr.cell? ⟨w.heap.size, 1, none⟩ = some (.slice none 0 0) := rowOf_cell HS.out.rrow 1
                  have r2 : wr.cell? ⟨w.heap.size, 2, none⟩ = some (.slice none 0 0) := rowOf_cell HS.out.rrow 2
                  have r3 : wr.cell? ⟨w.heap.size, 3, none⟩ = some (.slice none 0 0) := rowOf_cell HS.out.rrow 3
                  have q0 := rowOf_frozen HS.out.rrow 0
                  have q1 := rowOf_frozen HS.out.rrow 1
                  have q2 := rowOf_frozen HS.out.rrow 2
                  have q3 := rowOf_frozen HS.out.rrow 3
                  clear N_r L_r
                  have hnr : bw ≠ w.heap.size := HS.out.tw.ne HS.out.tr (by decide)
                  have hnr2 : w.heap.size ≠ bw := fun e => hnr e.symm
                  have hwb := HS.out.hw
                  by_cases he0 : e0 = 0
                  · subst he0
                    have hgd := HGx.out.good
                    unfold contF at hgd
                    by_cases hat : at0 < n
                    · rw [if_neg (HLt.out at0 hat)] at hgd
                      subst hgd
                      have haz : (at0 : Int) < (n : Int) := by omega
                      clear HGx HLt HEnd HNum HSgn
                      go_upto_region 49 with (fail)
                      have m2 : (wr.setCell ⟨bw, 2, none⟩ (.int .i64 4)).cell? ⟨bw, 2, none⟩ = some (.int .i64 4) := rowOf_cell (HS.out.wbox.set2 4).row 2
                      have m3 := (rowOf_setCell_other (w := wr) ⟨bw, 2, none⟩ w.heap.size (.int .i64 4) hnr2).trans HS.out.rrow
                      refine gen_world (fun W => W.cell? ⟨bw, 2, none⟩ = some (.int .i64 4) ∧ rowOf W w.heap.size = some zeroG ∧ Below w.heap.size w W) ⟨m2, m3, HB.out.setCell hwb _⟩ ?_
                      clear d1 d2 f2 r0 r1 r2 r3 q0 q1 q2 q3 m2 m3 HB
                      rintro w9 ⟨d2, N_9, hB9⟩
                      have HB := Lib.hid hB9
                      clear hB9
                      have r0 : w9.cell? ⟨w.heap.size, 0, none⟩ = some (.slice none 0 0) := rowOf_cell N_9 0
                      have r1 : w9.cell? ⟨w.heap.size, 1, none⟩ = some (.slice none 0 0) := rowOf_cell N_9 1
                      have r2 : w9.cell? ⟨w.heap.size, 2, none⟩ = some (.slice none 0 0) := rowOf_cell N_9 2
                      have r3 : w9.cell? ⟨w.heap.size, 3, none⟩ = some (.slice none 0 0) := rowOf_cell N_9 3
                      have q0 := rowOf_frozen N_9 0
                      have q1 := rowOf_frozen N_9 1
                      have q2 := rowOf_frozen N_9 2
                      have q3 := rowOf_frozen N_9 3
                      clear N_9
                      go_wp2_with fail
                      rw [← HQ9.out]
                      go_region_law (fail)
                      all_goals rw [HQ9.out]
                      all_goals try simp only [List.getElem_toArray, List.getElem_cons_succ, List.getElem_cons_zero, Act.put, List.setIfInBounds_toArray, List.set_cons_zero, List.set_cons_succ]
                      all_goals go_wp2_with fail
                      all_goals rw [← HQ9.out]
                      all_goals exact bodyPost_ret (v := .tuple #[noG, .int .i64 (4 : Int)]) (by simp [results, Try.results15, go_sem, r0, r1, r2, r3]) rfl ⟨(by repeat' (first | exact HB.out | apply Below.drew | refine Below.setCell ?_ (by first | exact hwb | exact Nat.le_refl _) _)), .inr ⟨4, rfl, by decide, by decide, rfl⟩⟩
                    · obtain rfl : at0 = n := by omega
                      rw [HEnd.out, if_pos rfl] at hgd
                      subst hgd
                      have haz : ¬ (at0 : Int) < (at0 : Int) := by omega
                      obtain ⟨pp1, cc1, rfl⟩ := HS.out.par.is.slice
                      obtain ⟨pp2, cc2, rfl⟩ := HS.out.bnd.is.slice
                      obtain ⟨pp3, cc3, rfl⟩ := HS.out.nod.is.slice
                      obtain ⟨pp4, cc4, rfl⟩ := HS.out.edg.is.slice
                      have t0 : wr.cell? ⟨gb, 0, none⟩ = some _ := rowOf_cell HS.out.grow 0
                      have t1 : wr.cell? ⟨gb, 1, none⟩ = some _ := rowOf_cell HS.out.grow 1
                      have t2 : wr.cell? ⟨gb, 2, none⟩ = some _ := rowOf_cell HS.out.grow 2
                      have t3 : wr.cell? ⟨gb, 3, none⟩ = some _ := rowOf_cell HS.out.grow 3
                      have hng : gb ≠ w.heap.size := fun e => HS.out.ne e.symm
                      have HIG := Lib.hid (fun W (hW : Nb w.heap.size wr W) => HS.out.isGr hW)
                      clear HGx HLt HEnd HNum HSgn
                      go_wp2_with fail
                      rw [← HQ9.out]
                      exact bodyPost_ret (v := .tuple #[.agg #[.slice pp1 _ cc1, .slice pp2 _ cc2, .slice pp3 _ cc3, .slice pp4 _ cc4], .int .i64 0]) (by simp [results, Try.results15, go_sem, r0, r1, r2, r3, hP, hQ, hes]) rfl ⟨(by repeat' (first | exact HB.out | apply Below.drew | refine Below.setCell ?_ (by first | exact hwb | exact Nat.le_refl _) _)), .inl ⟨_, _, rfl, rfl, HIG.out _ (by repeat' (first | exact Nb.refl _ _ | apply Nb.set))⟩⟩
                  · have heb2 : ((e0 : Int) == 0) = false := by simp; omega
                    have heb3 : ((e0 : Int) != 0) = true := by simp; omega
                    have hres := (HGx.out.2.resolve_left (fun q => he0 q.1)).2
                    subst hres
                    have HE9 := Lib.hid he0
                    clear HGx HLt HEnd HNum HSgn he0
                    go_wp2_with fail
                    rw [← HQ9.out]
                    go_region_law (fail)
                    all_goals rw [HQ9.out]
                    all_goals try simp only [List.getElem_toArray, List.getElem_cons_succ, List.getElem_cons_zero, Act.put, List.setIfInBounds_toArray, List.set_cons_zero, List.set_cons_succ]
                    all_goals go_wp2_with fail
                    all_goals rw [← HQ9.out]
                    all_goals exact bodyPost_ret (v := .tuple #[noG, .int .i64 (e0 : Int)]) (by simp [results, Try.results15, go_sem, r0, r1, r2, r3]) rfl ⟨(by repeat' (first | exact HB.out | apply Below.drew | refine Below.setCell ?_ (by first | exact hwb | exact Nat.le_refl _) _)), .inr ⟨e0, rfl, HE9.out, HE.out, rfl⟩⟩
end Go.Proofs.Ytdhmoiiagplbpaa
