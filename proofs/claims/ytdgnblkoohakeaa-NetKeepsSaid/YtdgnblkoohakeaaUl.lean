/- NetKeeps' walk, over what the program's functions do -/
import Derived.Test.YtdgnblkoohakeaaUg
import Derived.Test.YtdgnblkoohakeaaUc
import Derived.Test.YtdgnblkoohakeaaRn
import Derived.Test.YtdgnblkoohakeaaOpenBox
import Derived.Deep.CutRange
import Derived.Deep.RegionLaw
namespace Go.Proofs.Ytdgnblkoohakeaa
open Go.RowKit
set_option linter.unusedVariables false
set_option linter.unusedSimpArgs false

theorem KInv.smallN {n : List BV} {ins : List Int} {next taken : Int} (h : KInv n ins next taken) (hl : ins.length ≤ 900) : SmallN n := by
  have hf := h.len
  have h1 : ∀ (m : List BV), (∀ b ∈ m, okB b = true) → m.length ≤ (m.flatMap BV.l).length ∧ ∀ b ∈ m, b.l.length ≤ (m.flatMap BV.l).length := by
    intro m
    induction m with
    | nil => intro _; exact ⟨Nat.le_refl _, fun b hb => by cases hb⟩
    | cons b m ih =>
      intro hm
      have i := ih fun c hc => hm c (List.mem_cons_of_mem _ hc)
      have hb := ((okB_iff b).1 (hm b List.mem_cons_self)).2.1.1
      simp only [List.flatMap_cons, List.length_append, List.length_cons]
      refine ⟨by omega, fun c hc => ?_⟩
      rcases List.mem_cons.1 hc with rfl | hc
      · omega
      · have := i.2 c hc; omega
  have h2 := h1 n h.good.1
  exact ⟨by omega, fun b hb => by have := h2.2 b hb; omega⟩
theorem emptyOwn (B : Nat) (w : World) (h : B ≤ w.heap.size) : RN.Own B (w.alloc (.cells #[] 3)) (.slice (some ⟨w.heap.size, 0, none⟩) 0 0) [] :=
  ⟨rfl, .inr ⟨w.heap.size, 0, #[], rfl, h, heap_alloc_new w _, Nat.le_refl 0, by decide, rfl, rfl⟩⟩
theorem free_mono {B C : Nat} {w : World} {v : Value} {xs : List Int} (h : RN.Free B w v xs) (hC : C ≤ B) : RN.Free C w v xs := by
  rcases h with h | h
  · exact .inl (h.mono hC)
  · exact .inr h
theorem is_take {w : World} {b o c : Nat} {xs : List Int} {a : Nat} (hb : b < w.heap.size) (hr : RN.Row w b o xs) (ha : a ≤ xs.length) : RN.Is w (.slice (some ⟨b, o, none⟩) a c) (xs.take a) := by
  by_cases h : a = 0
  · subst h; exact .inl ⟨rfl, _, c, rfl, fun q => by cases q⟩
  · have hl : (xs.take a).length = a := by rw [List.length_take]; omega
    refine .inr ⟨fun q => by rw [q] at hl; simp at hl; omega, b, o, c, by rw [hl], hb, fun j hj i u hu => ?_⟩
    rw [hl] at hj
    have e : (xs.take a)[j]! = xs[j]! := by rw [getElem!_pos _ j (by omega), getElem!_pos xs j (by omega), List.getElem_take]
    rw [e] at hu
    exact hr j (by omega) i u hu
theorem is_drop {w : World} {b o c : Nat} {xs : List Int} {a : Nat} (hb : b < w.heap.size) (hr : RN.Row w b o xs) (ha : a ≤ xs.length) : RN.Is w (.slice (some ⟨b, o + a, none⟩) (xs.length - a) c) (xs.drop a) := by
  by_cases h : a = xs.length
  · subst h
    rw [Nat.sub_self]
    exact .inl ⟨by simp, _, c, rfl, fun q => by cases q⟩
  · have hl : (xs.drop a).length = xs.length - a := List.length_drop
    refine .inr ⟨fun q => by rw [q] at hl; simp at hl; omega, b, o + a, c, by rw [hl], hb, fun j hj i u hu => ?_⟩
    rw [hl] at hj
    have e : (xs.drop a)[j]! = xs[a + j]! := by rw [getElem!_pos _ j (by omega), getElem!_pos xs (a + j) (by omega), List.getElem_drop]
    rw [e] at hu
    have q := hr (a + j) (by omega) i u hu
    rw [show o + (a + j) * RN.k + i = o + a + j * RN.k + i from by show o + (a + j) * 1 + i = o + a + j * 1 + i; omega] at q
    exact q
/-- the law's state -/
structure KS (w wr : World) (v5 v6 v7 v8 : Value) (k : Nat) : Prop where
  ex : ∃ (n : List BV) (ins : List Int) (nx tk : Int), KInv n ins nx tk ∧ 0 ≤ nx ∧ 0 ≤ tk ∧ nx ≤ (k : Int) ∧ v7 = .int .i64 nx ∧ v8 = .int .i64 tk ∧ IsBsG (fun b => v6.ownBlock = some b) wr v5 n ∧ capOk v5 ∧ RN.Free w.heap.size wr v6 ins ∧ ∀ b, v6.ownBlock = some b → b < wr.heap.size
  below : Below w.heap.size w wr
theorem KS.belowW {w wr wr' : World} {v5 v6 v7 v8 : Value} {k : Nat} (h : KS w wr v5 v6 v7 v8 k) (hb : Below wr.heap.size wr wr') : KS w wr' v5 v6 v7 v8 k := by
  obtain ⟨n, ins, nx, tk, a, b, c, d, e, f, g, i, j, l⟩ := h.ex
  exact ⟨⟨n, ins, nx, tk, a, b, c, d, e, f, g.below hb, i, j.below hb, fun b q => Nat.lt_of_lt_of_le (l b q) hb.size⟩, bcall h.below hb h.below.size⟩
theorem KS.mono {w wr : World} {v5 v6 v7 v8 : Value} {k k' : Nat} (h : KS w wr v5 v6 v7 v8 k) (hk : k ≤ k') : KS w wr v5 v6 v7 v8 k' := by
  obtain ⟨n, ins, nx, tk, a, b, c, d, e, f, g, i, j, l⟩ := h.ex
  exact ⟨⟨n, ins, nx, tk, a, b, c, by omega, e, f, g, i, j, l⟩, h.below⟩
theorem cap_free {B : Nat} {w : World} {v : Value} {xs : List Int} (h : RN.Free B w v xs) : capOk v := by
  rcases h with h | ⟨_, ad, rfl⟩
  · intro p n c e
    obtain ⟨h1, ⟨rfl, h0⟩ | ⟨g, cap, cur, rfl, hB, hg, h2, h3, _⟩⟩ := h
    · cases e; exact Nat.le_refl _
    · cases e; exact h2
  · intro p n c e; cases e; exact Nat.le_refl _
set_option maxRecDepth 100000 in
set_option maxHeartbeats 40000000 in
theorem netKeeps_walk (C : NetC) (xs : List PV5) (room : Int) (v : Value) (w : World) (hr : 0 ≤ room ∧ room ≤ 255) (h : RSp.Is w v xs) (hq : ∀ c ∈ xs, (0 ≤ c.e ∧ c.e ≤ 255) ∧ (0 ≤ c.f ∧ c.f ≤ 255) ∧ (0 ≤ c.t ∧ c.t ≤ 255) ∧ (0 ≤ c.i ∧ c.i ≤ 255)) :
    Calls Try.prog 4 #[v, .int .u8 room] w (Ret (.bool true) w) := by
  have HA := Lib.hid (nawake_any C w)
  have HCt := Lib.hid C
  obtain ⟨p, c, rfl, ho⟩ := isOpenedU h
  have HO := Lib.hid ho
  have HQ := Lib.hid hq
  obtain ⟨M, hM⟩ : ∃ M, M = min xs.length 150 := ⟨_, rfl⟩
  have hM1 : M ≤ xs.length := by omega
  have hM2 : M ≤ 150 := by omega
  have HM3 : Hid (¬ M < xs.length ∨ M = 150) := by rw [Hid]; omega
  clear h ho hq hM C
  go_enter Try.func4, Try.ntmps4
  go_wp2_with fail
  refine (HA.out).mono ?_
  rintro x w1 ⟨rfl, hb1⟩
  have HK1 : Hid (KS w w1 (.slice none 0 0) (.slice none 0 0) (.int .i64 0) (.int .i64 0) 0) := ⟨⟨[], [], 0, 0, KInv.start, by omega, by omega, by omega, rfl, rfl, (IsBs.nil w1).none.mono (fun b hb => by cases hb), capNil, .inl (RowKind.Own.nil RN _ _), fun b hb => by cases hb⟩, hb1⟩
  clear hb1 HA
  go_wp2_with fail
  go_loopg [5, 6, 7, 8, 9] M (fun gg v5 v6 v7 v8 iv wr => ∃ k : Nat, k ≤ M ∧ M - k ≤ gg ∧ iv = .int .i64 (k : Int) ∧ Hid (KS w wr v5 v6 v7 v8 k))
  case atStart => exact ⟨0, Nat.zero_le _, by omega, rfl, HK1.out⟩
  case round =>
    obtain ⟨k, hk, hg, rfl, HK⟩ := hrel
    rename World => wo
    by_cases hlt : k < M
    · have hkz : (k : Int) < (xs.length : Int) := by omega
      have hk150 : (k : Int) < 150 := by omega
      have hkx : k < xs.length := by omega
      obtain ⟨b, off, rfl, hbl, hrow⟩ := HO.out k hkx
      obtain ⟨e0, e1, e2, e3, e4⟩ := atSp (hrow.below HK.out.below hbl) k hkx
      have hrg := HQ.out xs[k]! (by rw [getElem!_pos xs k hkx]; exact List.getElem_mem _)
      generalize xs[k]! = x at *
      obtain ⟨sp, se, sf, st, si⟩ := x
      simp only at e0 e1 e2 e3 e4 hrg
      obtain ⟨q1, q2, q3, q4⟩ := hrg
      clear HK1 hrow
      go_upto_region 10 with (fail)
      refine gen_world (fun W3 => Below wo.heap.size wo W3 ∧ Boxed W3 wo.heap.size #[.bool sp, .int .u8 se, .int .u8 sf, .int .u8 st, .int .u8 si] 47) ⟨by first | exact (Below.refl _ _).alloc (Nat.le_refl _) _ | go_grown, by first | exact heap_alloc_new _ _ | skip⟩ ?_
      rintro w3 ⟨hb3, hx3⟩
      have HK3 := Lib.hid (HK.out.belowW hb3)
      have HX3 := Lib.hid hx3
      generalize wo.heap.size = bs at *
      have c1 : ∀ p : Nat, (w3.drewN p).cell? ⟨bs, 1, none⟩ = some (.int .u8 se) := fun p => ((below_drewN (Below.refl w3.heap.size w3) p).cell (p := ⟨bs, 1, none⟩) HX3.out.lt).trans (HX3.out.cell 1)
      have c2 : ∀ p : Nat, (w3.drewN p).cell? ⟨bs, 2, none⟩ = some (.int .u8 sf) := fun p => ((below_drewN (Below.refl w3.heap.size w3) p).cell (p := ⟨bs, 2, none⟩) HX3.out.lt).trans (HX3.out.cell 2)
      have c3 : ∀ p : Nat, (w3.drewN p).cell? ⟨bs, 3, none⟩ = some (.int .u8 st) := fun p => ((below_drewN (Below.refl w3.heap.size w3) p).cell (p := ⟨bs, 3, none⟩) HX3.out.lt).trans (HX3.out.cell 3)
      clear e0 e1 e2 e3 e4 hb3 hx3 HK
      go_quiet (fail)
      go_upto_region 11 with (fail)
      refine gen_world (fun W4 => Hid (KS w W4 u5 u6 u7 u8 k) ∧ Hid (Boxed W4 bs #[.bool sp, .int .u8 se, .int .u8 sf, .int .u8 st, .int .u8 si] 47)) ⟨HK3.out.belowW (below_drewN (Below.refl _ _) _), HX3.out.below (below_drewN (Below.refl _ _) _) HX3.out.lt⟩ ?_
      rintro w4 ⟨HK4, HX4⟩
      clear c1 c2 c3 HK3 HX3
      have s0 : w4.cell? ⟨bs, 0, none⟩ = some (.bool sp) := HX4.out.cell 0
      have hee : 0 ≤ se % 3 ∧ se % 3 ≤ 2 := by omega
      have hff : 0 ≤ sf % 2 ∧ sf % 2 ≤ 1 := by omega
      have htt : 0 ≤ st % 2 ∧ st % 2 ≤ 1 := by omega
      go_upto_if 53 with (fail)
      generalize se % 3 = ee at *
      generalize sf % 2 = ff at *
      generalize st % 2 = tt at *
      go_cut [5, 6, 7, 8] from 54 to 136 (fun v5 v6 v7 v8 wx => Hid (KS w wx v5 v6 v7 v8 (k + 1)))
      case first =>
        obtain ⟨n, ins, nx, tk, hI, hnx, htk, hnk, hv7, hv8, hB5, hC5, hF6, hlt6⟩ := HK4.out.ex
        have hil : ins.length ≤ 150 := by have := hI.count; omega
        have hsm := hI.smallN (by omega)
        obtain ⟨hln, hll⟩ := hI.small ee ff tt
        subst hv7
        subst hv8
        have HI := Lib.hid hI
        have HSm := Lib.hid hsm
        have HB4 := Lib.hid HK4.out.below
        have HF6 := Lib.hid hF6
        have HL6 := Lib.hid hlt6
        have HB5 := Lib.hid hB5
        have HC5 := Lib.hid hC5
        have HLen : Hid (∀ W, Below w4.heap.size w4 W → Calls Try.prog 15 #[u5, .int .i64 ee, .int .i64 ff, .int .i64 tt] W (Ret (.int .i64 (lenL n ee ff tt : Int)) W)) := fun W hW => by
          have q := HCt.out.len n u5 ee ff tt W HSm.out (HB5.out.is.below hW) HC5.out
          rw [hln] at q
          exact q
        cases sp
        · have HTk := Lib.hid (HCt.out.take n u5 ee ff tt si w4 HSm.out HB5.out.is HC5.out)
          have hto : takeOk n ee ff tt si = decide (si < (lenL n ee ff tt : Int)) := by
            unfold takeOk
            rw [hln, Bool.eq_iff_iff, decide_eq_true_eq, decide_eq_true_eq]
            exact ⟨fun q => q.2, fun q => ⟨q4.1, q⟩⟩
          obtain ⟨sn, hsn⟩ : ∃ sn : Nat, si = (sn : Int) := ⟨si.toNat, by omega⟩
          have HTn : Hid (si < (lenL n ee ff tt : Int) → takeN n ee ff tt si = takeL n ee ff tt sn ∧ takeM n ee ff tt si = (listL n ee ff tt)[sn]!) := fun q => by
            unfold takeN takeM
            rw [if_pos (by rw [hto]; exact decide_eq_true q), if_pos (by rw [hto]; exact decide_eq_true q), hsn]
            exact ⟨rfl, rfl⟩
          have HTo : Hid (¬ si < (lenL n ee ff tt : Int) → takeN n ee ff tt si = n) := fun q => by unfold takeN; rw [if_neg (by rw [hto, decide_eq_false q]; decide)]
          have HKt : Hid (si < (lenL n ee ff tt : Int) → ((listL n ee ff tt)[sn]!).n ∈ ins ∧ ∀ j, j < ins.length → ins[j]! = ((listL n ee ff tt)[sn]!).n → KInv (takeL n ee ff tt sn) (ins.take j ++ ins.drop (j + 1)) nx (tk + 1)) := fun q => HI.out.take (by omega)
          rw [hto] at HTk
          have s4 : w4.cell? ⟨bs, 4, none⟩ = some (.int .u8 si) := HX4.out.cell 4
          clear hto hI hsm hB5 hC5 hF6 hlt6 hln hsn
          generalize takeM n ee ff tt si = mm at *
          generalize takeN n ee ff tt si = n' at *
          generalize (lenL n ee ff tt : Int) = L at *
          go_wp2_with fail
          refine (HTk.out).mono ?_
          rintro x w5 ⟨un, rfl, hi5, hc5, hb5, hG5⟩
          have HG5 := Lib.hid (hG5 _ HL6.out HB5.out)
          have HCu := Lib.hid hc5
          have HD5 := Lib.hid hb5
          clear hi5 hc5 hb5 hG5 HTk s4 s0
          go_upto_region 20 with (fail)
          refine gen_world (fun W3 => Below w5.heap.size w5 W3 ∧ Boxed W3 w5.heap.size (mvRow mm) 29) ⟨by first | exact (Below.refl _ _).alloc (Nat.le_refl _) _ | go_grown, by first | exact heap_alloc_new _ _ | skip⟩ ?_
          rintro w6 ⟨hb6, hx6⟩
          have HG6 := Lib.hid (HG5.out.below hb6)
          have HD6 := Lib.hid (bcall HD5.out hb6 HD5.out.size)
          have HX6 := Lib.hid hx6
          generalize w5.heap.size = bm at *
          have S4 : ∀ p : Beh w6, p.w.cell? ⟨bs, 4, none⟩ = some (.int .u8 si) := fun p => beh_cell (((HX4.out.below HD6.out HX4.out.lt).cell 4) : _ = some (Value.int .u8 si)) p
          have K1 : Hid (∀ p : Beh w6, Calls Try.prog 15 #[u5, .int .i64 ee, .int .i64 ff, .int .i64 tt] p.w (Ret (.int .i64 L) p.w)) := fun p => HLen.out p.w (bcall HD6.out p.h HD6.out.size)
          clear hb6 hx6 HG5 HD5 HLen
          by_cases hlr : si < L
          · have hd : decide (si < L) = true := decide_eq_true hlr
            obtain ⟨hn1, hn2⟩ := HTn.out hlr
            have hkt := HKt.out hlr
            rw [← hn2, ← hn1] at hkt
            have HKt2 := Lib.hid hkt
            clear HTn HTo HKt hn1 hn2 hkt
            go_wp2_with fail
            refine wp_region_beh (by kernel_rfl) (by kernel_rfl) ?_
            repeat (first | go_big_quiet_step (first | (with_reducible exact Calls.beh (K1.out _))) | quiet_step (first | (with_reducible exact Calls.beh (K1.out _))))
            refine wpQuiet_nil ?_
            intro _ hw'
            obtain ⟨g, hw''⟩ := hw'
            subst hw''
            have HG7 := Lib.hid (HG6.out.below g.h)
            have HD7 := Lib.hid (bcall HD6.out g.h HD6.out.size)
            have HX7 := Lib.hid (HX6.out.below g.h HX6.out.lt)
            clear S4 K1 HG6 HD6 HX6 hd
            generalize g.w = w7 at *
            clear g
            obtain ⟨p6, c6, hv6, hop6⟩ := isOpenedU (HF6.out.below HD7.out).is
            have HOp := Lib.hid hop6
            subst hv6
            go_wp2_with fail
            go_loopg [19, 20] ins.length (fun g2 av iv wr => ∃ j : Nat, j ≤ ins.length ∧ ins.length - j ≤ g2 ∧ iv = .int .i64 (j : Int) ∧ Hid ((av = .int .i64 (-1) ∧ ∀ i, i < j → ins[i]! ≠ mm.n) ∨ ∃ a : Nat, a < ins.length ∧ av = .int .i64 (a : Int) ∧ ins[a]! = mm.n) ∧ Hid (Below w7.heap.size w7 wr))
            case atStart => exact ⟨0, Nat.zero_le _, by omega, rfl, .inl ⟨rfl, fun i hi => absurd hi (Nat.not_lt_zero i)⟩, Below.refl _ _⟩
            case round =>
              obtain ⟨j, hj, hg2, rfl, HM, HB8⟩ := hrel
              rename World => w8
              by_cases hjt : j < ins.length
              · have hjz : (j : Int) < (ins.length : Int) := by omega
                obtain ⟨bi, oi, rfl, hbi, hri⟩ := HOp.out j hjt
                have hx8 := HX7.out.below HB8.out HX7.out.lt
                have i0 := atN (hri.below HB8.out hbi) j hjt
                have I0 : ∀ p : Nat, (w8.drewN p).cell? ⟨bi, oi + j, none⟩ = some (.int .i64 ins[j]!) := fun p => ((below_drewN (Below.refl w8.heap.size w8) p).cell (p := ⟨bi, oi + j, none⟩) (World.block_lt_of_cell? _ _ i0)).trans i0
                have M8 : ∀ p : Nat, (w8.drewN p).cell? ⟨bm, 8, none⟩ = some (.int .i64 mm.n) := fun p => ((below_drewN (Below.refl w8.heap.size w8) p).cell (p := ⟨bm, 8, none⟩) hx8.lt).trans (hx8.cell 8)
                have HYes : Hid (ins[j]! = mm.n → ∃ a : Nat, a < ins.length ∧ (Value.int .i64 (j : Int)) = .int .i64 (a : Int) ∧ ins[a]! = mm.n) := fun e => ⟨j, hjt, rfl, e⟩
                have HNo : Hid (ins[j]! ≠ mm.n → (u19 = .int .i64 (-1) ∧ ∀ i, i < j + 1 → ins[i]! ≠ mm.n) ∨ ∃ a : Nat, a < ins.length ∧ u19 = .int .i64 (a : Int) ∧ ins[a]! = mm.n) := fun e => by
                  rcases HM.out with ⟨h1, h2⟩ | h1
                  · refine .inl ⟨h1, fun i hi => ?_⟩
                    by_cases q : i = j
                    · subst q; exact e
                    · exact h2 i (by omega)
                  · exact .inr h1
                clear i0 hx8 hri
                generalize ins[j]! = y at *
                by_cases hy : y = mm.n
                · have b9 : (y == mm.n) = true := by simpa using hy
                  have HY2 := Lib.hid (HYes.out hy)
                  clear hy HYes HNo
                  go_wp2_with fail
                  go_quiet (fail)
                  go_wp2
                  go_roundg (ins.length - (j + 1))
                  case measure => omega
                  case rel => exact ⟨j + 1, by omega, by omega, by go_num, .inr HY2.out, below_drewN HB8.out _⟩
                · have b9 : (y == mm.n) = false := by simpa using hy
                  have HY2 := Lib.hid (HNo.out hy)
                  clear hy HYes HNo
                  go_wp2_with fail
                  go_quiet (fail)
                  go_wp2
                  go_roundg (ins.length - (j + 1))
                  case measure => omega
                  case rel => exact ⟨j + 1, by omega, by omega, by go_num, HY2.out, below_drewN HB8.out _⟩
              · obtain rfl : j = ins.length := by omega
                obtain ⟨a, ha, hav, hae⟩ : ∃ a : Nat, a < ins.length ∧ u19 = .int .i64 (a : Int) ∧ ins[a]! = mm.n := by
                  rcases HM.out with ⟨_, h2⟩ | h1
                  · obtain ⟨i, hi, e⟩ := List.mem_iff_getElem.1 HKt2.out.1
                    have := h2 i hi
                    rw [getElem!_pos ins i hi] at this
                    exact absurd e this
                  · exact h1
                subst hav
                have HKn := Lib.hid (HKt2.out.2 a ha hae)
                clear hae HM HKt2
                have haz : ¬ (a : Int) < 0 := by omega
                obtain ⟨bi, oi, rfl, hbi, hri⟩ := HOp.out a ha
                have hcap := cap_free HF6.out _ _ _ rfl
                have ha1 : (a : Int) ≤ (c6 : Int) := by omega
                have ha2 : (a : Int) + 1 ≤ (ins.length : Int) := by omega
                have ha3 : a ≤ c6 := by omega
                have ha4 : a + 1 ≤ ins.length := by omega
                have hz8 : w.heap.size ≤ w8.heap.size := Nat.le_trans HB4.out.size (Nat.le_trans HD7.out.size HB8.out.size)
                have HE : Hid (RN.Free w8.heap.size ((w8.alloc (.cells #[] 3)).drew) (.slice (some ⟨w8.heap.size, 0, none⟩) 0 0) []) := .inl (emptyOwn w8.heap.size w8 (Nat.le_refl _)).drew
                have HWE : Hid (Below w8.heap.size w8 ((w8.alloc (.cells #[] 3)).drew)) := ((Below.refl _ _).alloc (Nat.le_refl _) _).drew
                have hbi8 : bi < w8.heap.size := Nat.lt_of_lt_of_le hbi HB8.out.size
                have HR8 : Hid (∀ W, Below w8.heap.size w8 W → RN.Row W bi oi ins) := fun W hW => (hri.below HB8.out hbi).below hW hbi8
                have HS1 : Hid (RN.Is ((w8.alloc (.cells #[] 3)).drew) (.slice (some ⟨bi, oi, none⟩) a c6) (ins.take a)) := is_take (Nat.lt_of_lt_of_le hbi8 HWE.out.size) (HR8.out _ HWE.out) (by omega)
                have hwr : IntKind.i64.wrap ((a : Int) + 1) = (a : Int) + 1 := by rw [IntKind.wrap_i64]; omega
                have htw : wrap64 (tk + 1) = tk + 1 := by have := HI.out.count; unfold wrap64; omega
                have htn : ((a : Int) + 1).toNat = a + 1 := by omega
                have hge : 0 ≤ (a : Int) + 1 := by omega
                obtain ⟨pv, hpv⟩ : ∃ pv : Option Addr, (if c6 = a + 1 then some (⟨bi, oi, none⟩ : Addr) else some ⟨bi, oi + (a + 1), none⟩) = pv := ⟨_, rfl⟩
                have HS2 : Hid (∀ W, Below w8.heap.size w8 W → RN.Is W (.slice pv (ins.length - (a + 1)) (c6 - (a + 1))) (ins.drop (a + 1))) := fun W hW => by
                  rw [← hpv]
                  by_cases hcc : c6 = a + 1
                  · have hle : ins.length = a + 1 := by omega
                    refine .inl ⟨by rw [← hle]; simp, ⟨_, c6 - (a + 1), by rw [hle, Nat.sub_self], fun q => ?_⟩⟩
                    rw [if_pos hcc] at q
                    cases q
                  · rw [if_neg hcc]
                    exact is_drop (Nat.lt_of_lt_of_le hbi8 hW.size) (HR8.out W hW) (by omega)
                have HG8 := Lib.hid (HG7.out.below HB8.out)
                have HB8w : Hid (Below w.heap.size w w8) := bcall (bcall HB4.out HD7.out HB4.out.size) HB8.out (Nat.le_trans HB4.out.size HD7.out.size)
                have HLe : Hid (([] : List Int).length + (ins.take a).length ≤ 900000) := by rw [Hid, List.length_take]; simp; omega
                have HLf : Hid ((([] : List Int) ++ ins.take a).length + (ins.drop (a + 1)).length ≤ 900000) := by rw [Hid, List.nil_append, List.length_take, List.length_drop]; omega
                clear hri hcap HX7 HG7 HB8 HD7 hbi HOp HF6 HL6 HB5
                go_upto_region 31 with (fail)
                go_region_law (first
                  | (refine RowKind.Free.appendR (R := RN) (ys := ins.take a) (by decide) rfl _ _ rfl HE.out rfl rfl HS1.out HLe.out HWE.out.size ?_; intro v9 w9 hO9 hG9 hS9 hL9; have HD9 := hG9.below HWE.out (Nat.le_refl _) HWE.out.size; have HS9 := HS2.out w9 HD9)
                  | (refine RowKind.Free.appendR (R := RN) (ys := ins.drop (a + 1)) (by decide) rfl _ _ rfl hO9 rfl rfl HS9 HLf.out HD9.size ?_; intro v10 w10 hO10 hG10 hS10 hL10; have HD10 := hG10.below HD9 (Nat.le_refl _) HD9.size))
                all_goals
                  try simp only [List.getElem_toArray, List.getElem_cons_succ, List.getElem_cons_zero, Act.put, List.setIfInBounds_toArray, List.set_cons_zero, List.set_cons_succ]
                  have hown : ∀ b, v10.ownBlock = some b → w8.heap.size ≤ b := fun b q => by
                    rcases hS10 with hS10 | hS10
                    · rw [hS10] at q
                      rcases hS9 with hS9 | hS9
                      · rw [hS9] at q
                        exact Nat.le_of_eq (Option.some.inj q)
                      · exact Nat.le_trans HWE.out.size (hS9 b q)
                    · exact Nat.le_trans HD9.size (hS10 b q)
                  have HKf : Hid (KS w w10 un v10 (.int .i64 nx) (.int .i64 (tk + 1)) (k + 1)) := ⟨⟨n', _, nx, tk + 1, HKn.out, hnx, by omega, by omega, rfl, rfl, (HG8.out.new fun b q => .inr (hown b q)).below HD10, HCu.out, by have q := free_mono hO10 hz8; rw [List.nil_append] at q; exact q, hL10 (hL9 fun b q => by have e : w8.heap.size = b := Option.some.inj q; subst e; simp)⟩, bcall HB8w.out HD10 HB8w.out.size⟩
                  clear hO9 hG9 hS9 hL9 HD9 HS9 hO10 hG10 hS10 hL10 HD10 hown
                  go_wp2_with fail
                  go_meet
                  case rel => exact HKf.out
          · have hd : decide (si < L) = false := decide_eq_false hlr
            have HTo2 := HTo.out (by omega)
            rw [HTo2] at HG6
            clear HTn HTo HKt HTo2
            go_wp2_with fail
            refine wp_region_beh (by kernel_rfl) (by kernel_rfl) ?_
            repeat (first | go_big_quiet_step (first | (with_reducible exact Calls.beh (K1.out _))) | quiet_step (first | (with_reducible exact Calls.beh (K1.out _))))
            refine wpQuiet_nil ?_
            intro _ hw'
            obtain ⟨g, hw''⟩ := hw'
            subst hw''
            have HG7 := Lib.hid (HG6.out.below g.h)
            have HD7 := Lib.hid (bcall HD6.out g.h HD6.out.size)
            clear S4 K1 HG6 HD6 HX6 hd
            generalize g.w = w7 at *
            clear g
            have HKn : Hid (KS w w7 un u6 (.int .i64 nx) (.int .i64 tk) (k + 1)) := ⟨⟨n, ins, nx, tk, HI.out, hnx, htk, by omega, rfl, rfl, HG7.out, HCu.out, HF6.out.below HD7.out, fun b q => Nat.lt_of_lt_of_le (HL6.out b q) HD7.out.size⟩, bcall HB4.out HD7.out HB4.out.size⟩
            clear HF6 HG7 HL6 HD7 HB5
            go_wp2_with fail
            go_meet
            case rel => exact HKn.out
        · have HPut := Lib.hid (HCt.out.put n u5 ff tt room ⟨ee, 0, 0, 0, 0, 0, 0, 0, nx, 0⟩ w4 HSm.out HB5.out.is HC5.out)
          have hpo : putOk n ff tt room ⟨ee, 0, 0, 0, 0, 0, 0, 0, nx, 0⟩ = decide ((lenL n ee ff tt : Int) < room) := by
            unfold putOk
            rw [Bool.eq_iff_iff, decide_eq_true_eq, decide_eq_true_eq]
            show (_ ∧ _ ∧ (lenN n ee ff tt : Int) < room ∧ lenN n ee ff tt < 4096) ↔ _
            rw [hln]
            exact ⟨fun q => q.2.2.1, fun q => ⟨(rightN_iff n).2 HI.out.good, ⟨hff.1, htt.1, hee.1⟩, q, by omega⟩⟩
          have HPn : Hid ((lenL n ee ff tt : Int) < room → putN n ff tt room ⟨ee, 0, 0, 0, 0, 0, 0, 0, nx, 0⟩ = putL n ff tt ⟨ee, 0, 0, 0, 0, 0, 0, 0, nx, 0⟩) := fun q => by unfold putN; rw [if_pos (by rw [hpo]; exact decide_eq_true q)]
          have HPo : Hid (¬ (lenL n ee ff tt : Int) < room → putN n ff tt room ⟨ee, 0, 0, 0, 0, 0, 0, 0, nx, 0⟩ = n) := fun q => by unfold putN; rw [if_neg (by rw [hpo, decide_eq_false q]; decide)]
          have HKp : Hid (KInv (putL n ff tt ⟨ee, 0, 0, 0, 0, 0, 0, 0, nx, 0⟩) (ins ++ [nx]) (nx + 1) tk) := HI.out.put ⟨hff.1, htt.1, hee.1⟩ (by show lenL n ee ff tt < 4096; omega) rfl hnx
          rw [hpo] at HPut
          clear hpo hI hsm hB5 hC5 hF6 hlt6 hln
          generalize (lenL n ee ff tt : Int) = L at *
          go_wp2_with fail
          refine (HPut.out).mono ?_
          rintro x w5 ⟨un, rfl, hi5, hc5, hb5, hG5⟩
          have HG5 := Lib.hid (hG5 _ HL6.out HB5.out)
          have HCu := Lib.hid hc5
          have HD5 := Lib.hid hb5
          clear hi5 hc5 hb5 hG5 HPut
          go_wp2_with fail
          refine (HLen.out _ HD5.out).mono ?_
          rintro x w6 ⟨rfl, hb6⟩
          have HG6 := Lib.hid (HG5.out.below hb6)
          have HD6 := Lib.hid (bcall HD5.out hb6 HD5.out.size)
          clear hb6 HG5 HD5 HLen
          by_cases hlr : L < room
          · have hd : decide (L < room) = true := decide_eq_true hlr
            have HPn2 := HPn.out hlr
            rw [HPn2] at HG6
            have HF := Lib.hid ((HF6.out.below HD6.out).alloc (.cells #[.int .i64 nx] 3))
            have HGa := Lib.hid (HG6.out.below ((Below.refl _ _).alloc (Nat.le_refl _) (.cells #[.int .i64 nx] 3)))
            have HDa : Hid (Below w.heap.size w (w6.alloc (.cells #[.int .i64 nx] 3))) := (bcall HB4.out HD6.out HB4.out.size).alloc (Nat.le_trans HB4.out.size HD6.out.size) _
            have HIx : Hid (RN.Is (w6.alloc (.cells #[.int .i64 nx] 3)) (.slice (some ⟨w6.heap.size, 0, none⟩) 1 1) [nx]) := .inr ⟨by simp, w6.heap.size, 0, 1, rfl, by simp, RowKind.Row.new (R := RN) w6 nx 3⟩
            have HLa : Hid (∀ b, u6.ownBlock = some b → b < (w6.alloc (.cells #[.int .i64 nx] 3)).heap.size) := fun b q => by have := HL6.out b q; have := HD6.out.size; simp; omega
            have HLn : Hid (ins.length + [nx].length ≤ 900000) := by rw [Hid, List.length_singleton]; omega
            clear HPn HPo HPn2 HF6 HG6 HL6 HD6 HB5
            go_wp2_with (at_builtin; refine RowKind.Free.append (R := RN) (ys := [nx]) (by decide) rfl _ _ rfl HF.out rfl rfl HIx.out HLn.out HDa.out.size ?_; intro v6 w7 hO6 hG6 hS6 hL6; have HKn : Hid (KS w w7 un v6 (.int .i64 (nx + 1)) (.int .i64 tk) (k + 1)) := ⟨⟨_, _, _, _, HKp.out, by omega, htk, by omega, rfl, rfl, HGa.out.grew hG6 hS6, HCu.out, hO6, hL6 HLa.out⟩, hG6.below HDa.out (Nat.le_refl _) HDa.out.size⟩; clear hO6 hG6 hS6 hL6)
            go_meet
            case rel => exact HKn.out
          · have hd : decide (L < room) = false := decide_eq_false hlr
            have HPn2 := HPo.out (by omega)
            rw [HPn2] at HG6
            have HKn : Hid (KS w w6 un u6 (.int .i64 nx) (.int .i64 tk) (k + 1)) := ⟨⟨n, ins, nx, tk, HI.out, hnx, htk, by omega, rfl, rfl, HG6.out, HCu.out, HF6.out.below HD6.out, fun b q => Nat.lt_of_lt_of_le (HL6.out b q) HD6.out.size⟩, bcall HB4.out HD6.out HB4.out.size⟩
            clear HPn HPo HPn2 HF6 HG6 HL6 HD6 HB5
            go_wp2_with fail
            go_meet
            case rel => exact HKn.out
      case rest =>
        rename World => w7
        have HK7 := hcut
        obtain ⟨n, ins, nx, tk, hI, hnx, htk, hnk, hv7, hv8, hB5, hC5, hF6, hlt6⟩ := hcut.out.ex
        clear hcut
        obtain ⟨p5, c5, hv5, ho5⟩ := hB5.is.opened
        obtain ⟨p6, c6, hv6, hx6⟩ := isOpenedU hF6.is
        have hcnt := hI.count
        have hall := hI.all
        have HSm := Lib.hid (hI.smallN (by omega))
        have HO5 := Lib.hid ho5
        have HS := Lib.hid hI.sorted
        have HAn := Lib.hid hall.2
        have HAl := Lib.hid (HCt.out.all n u5 w7 HSm.out hB5.is hC5)
        have HRi := Lib.hid (fun W hW => HCt.out.right n u5 W HSm.out (hB5.is.below hW) hC5)
        rw [hall.1] at HRi
        have hw1 : IntKind.i64.wrap ((ins.length : Int) + tk) = nx := by rw [IntKind.wrap_i64]; omega
        have hw2 : wrap64 ((ins.length : Int) + tk) = nx := by unfold wrap64; omega
        have HNl : Hid (n.length ≤ 1000 ∧ ∀ b ∈ n, b.l.length ≤ 5000) := HSm.out
        generalize ins.length = il at *
        subst hv7
        subst hv8
        subst hv5
        subst hv6
        clear hx6 ho5 hI hB5 hC5 hF6 hlt6 hall HSm HCt hcnt HK4 HX4 s0
        go_wp2_with fail
        refine (HAl.out).mono ?_
        rintro x w8 ⟨u8', rfl, hu8, hb8⟩
        obtain ⟨p8, c8, rfl, hx8⟩ := isOpenedU hu8
        rw [HAn.out]
        have HRx := Lib.hid (HRi.out _ hb8)
        have HB8 := Lib.hid hb8
        clear hu8 hx8 hb8 HAl HRi HAn
        go_wp2_with fail
        refine (HRx.out).mono ?_
        rintro x w9 ⟨rfl, hb9⟩
        have HB9 : Hid (Below w7.heap.size w7 w9) := bcall HB8.out hb9 HB8.out.size
        have HK9 := Lib.hid (HK7.out.belowW HB9.out)
        clear hb9 HRx HB8 HK7
        go_wp2_with fail
        go_loopg [22] n.length (fun g2 iv wr => ∃ i : Nat, i ≤ n.length ∧ n.length - i ≤ g2 ∧ iv = .int .i64 (i : Int) ∧ Hid (Below w9.heap.size w9 wr))
        case atStart => exact ⟨0, Nat.zero_le _, by omega, rfl, Below.refl _ _⟩
        case round =>
          obtain ⟨i, hi, hg2, rfl, HBi⟩ := hrel
          rename World => wi
          have hnl := HNl.out.1
          by_cases hin : i < n.length
          · have hiz : (i : Int) < (n.length : Int) := by omega
            obtain ⟨b2, o2, q2, d2, rfl, hI2, hcell⟩ := HO5.out i hin
            have hmem : n[i]! ∈ n := by rw [getElem!_pos n i hin]; exact List.getElem_mem _
            have HSo := Lib.hid (HS.out _ hmem)
            have hbb := HNl.out.2 _ hmem
            have HC3 := Lib.hid (fun W hW => (hcell W hW).2.2.2)
            clear hcell hmem
            generalize n[i]! = bb at *
            obtain ⟨p2, c2, hqe, hop⟩ := isOpenedU hI2
            injection hqe with e1 e2 e3
            subst e1
            subst e3
            have HOp := Lib.hid hop
            clear e2 hop hI2 HO5 HS HNl
            obtain ⟨bln, hbln⟩ : ∃ bln, bln = bb.l.length := ⟨_, rfl⟩
            rw [← hbln] at HC3 hbb
            have HBl := Lib.hid hbln
            clear hbln
            go_wp2_with fail
            go_loopg [23] bln (fun g3 jv wr => ∃ j m : Nat, m + 1 = j ∧ (j = 1 ∨ j ≤ bln) ∧ bln - j ≤ g3 ∧ jv = .int .i64 (j : Int) ∧ Hid (Below wi.heap.size wi wr))
            case atStart => exact ⟨1, 0, rfl, .inl rfl, by omega, rfl, Below.refl _ _⟩
            case round =>
              obtain ⟨j, m, hm, hj2, hg3, rfl, HBj⟩ := hrel
              rename World => wj
              have HWi : Hid (Below w7.heap.size w7 wi) := bcall HB9.out HBi.out HB9.out.size
              have HWj : Hid (Below w7.heap.size w7 wj) := bcall HWi.out HBj.out HWi.out.size
              have c3 := HC3.out _ HWj.out
              have hb2 := World.block_lt_of_cell? _ _ c3
              by_cases hjl : j < bln
              · have hjz : (j : Int) < (bln : Int) := by omega
                obtain ⟨bl, ol, rfl, hbl, hrl⟩ := HOp.out m (by have := HBl.out; omega)
                have r1 := (atM (hrl.below HWj.out hbl) j (by have := HBl.out; omega)).2.2.2.2.2.2.2.2.1
                have r0 := (atM (hrl.below HWj.out hbl) m (by have := HBl.out; omega)).2.2.2.2.2.2.2.2.1
                have hlt : (bb.l[m]!).n < (bb.l[j]!).n := by
                  have := HBl.out
                  rw [getElem!_pos bb.l m (by omega), getElem!_pos bb.l j (by omega)]
                  exact List.pairwise_iff_getElem.1 HSo.out m j (by omega) (by omega) (by omega)
                have hbl2 : bl < wj.heap.size := Nat.lt_of_lt_of_le hbl HWj.out.size
                have R3 : ∀ p : Nat, (wj.drewN p).cell? ⟨b2, o2 + i * 4 + 3, none⟩ = some (.slice (some ⟨bl, ol, none⟩) bln d2) := fun p => ((below_drewN (Below.refl wj.heap.size wj) p).cell (p := ⟨b2, o2 + i * 4 + 3, none⟩) hb2).trans c3
                have R1 : ∀ p : Nat, (wj.drewN p).cell? ⟨bl, ol + j * 10 + 8, none⟩ = some (.int .i64 (bb.l[j]!).n) := fun p => ((below_drewN (Below.refl wj.heap.size wj) p).cell (p := ⟨bl, ol + j * 10 + 8, none⟩) hbl2).trans r1
                have R0 : ∀ p : Nat, (wj.drewN p).cell? ⟨bl, ol + m * 10 + 8, none⟩ = some (.int .i64 (bb.l[m]!).n) := fun p => ((below_drewN (Below.refl wj.heap.size wj) p).cell (p := ⟨bl, ol + m * 10 + 8, none⟩) hbl2).trans r0
                have hm1 : IntKind.i64.wrap ((j : Int) - 1) = (m : Int) := by rw [IntKind.wrap_i64]; omega
                have hm2 : wrap64 ((j : Int) - 1) = (m : Int) := by unfold wrap64; omega
                have hmz : (m : Int) < (bln : Int) := by omega
                generalize (bb.l[j]!).n = y1 at *
                generalize (bb.l[m]!).n = y0 at *
                have hd : decide (y1 ≤ y0) = false := decide_eq_false (by omega)
                have hnot : ¬ y1 ≤ y0 := by omega
                have HJ1 : Hid ((j + 1 : Nat) ≤ bln) := by rw [Hid]; omega
                have HJm := Lib.hid hm
                clear hrl r1 r0 hlt hm hj2
                go_wp2_with fail
                go_quiet (fail)
                go_wp2
                go_roundg (bln - (j + 1))
                case measure => omega
                case rel => exact ⟨j + 1, j, rfl, .inr HJ1.out, by omega, by go_num, below_drewN HBj.out _⟩
              · have hjz : ¬ (j : Int) < (bln : Int) := by omega
                clear hm hj2
                go_wp2
                go_roundg (n.length - (i + 1))
                case measure => omega
                case rel => exact ⟨i + 1, by omega, by omega, by go_num, bcall HBi.out HBj.out HBi.out.size⟩
          · obtain rfl : i = n.length := by omega
            have hiz : ¬ ((n.length : Nat) : Int) < (n.length : Int) := by omega
            clear HO5 HS HNl
            go_wp2
            go_roundg (M - (k + 1))
            case measure => omega
            case rel => exact ⟨k + 1, by omega, by omega, by go_num, HK9.out.belowW HBi.out⟩
    · obtain rfl : k = M := by omega
      have HBe := Lib.hid HK.out.below
      rcases HM3.out with h1 | h1
      · have hkz : ¬ (k : Int) < (xs.length : Int) := by omega
        go_wp2
        go_returns
        exact ⟨rfl, HBe.out⟩
      · subst h1
        by_cases hx : 150 < xs.length
        · have hkz : (150 : Int) < (xs.length : Int) := by omega
          go_wp2
          go_returns
          exact ⟨rfl, HBe.out⟩
        · have hkz : ¬ (150 : Int) < (xs.length : Int) := by omega
          go_wp2
          go_returns
          exact ⟨rfl, HBe.out⟩
end Go.Proofs.Ytdgnblkoohakeaa
