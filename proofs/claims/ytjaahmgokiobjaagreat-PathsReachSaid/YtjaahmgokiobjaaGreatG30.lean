/- the program's Then on steps: the walk of right ones -/
import Derived.Test.YtjaahmgokiobjaaGreatG05
import Derived.Test.YtjaahmgokiobjaaGreatG06
import Derived.ArgAppend
namespace Go.Proofs.YtjaahmgokiobjaaGreat
open Go.RowKit
set_option linter.unusedVariables false
set_option linter.unusedSimpArgs false
attribute [local go_sem ↓] loadH loadT storeH storeT
attribute [local simp] size_setRow
attribute [local go_sem] rowAt_head rowOf_alloc_at rowOf_alloc_past rowOf_drew rowOf_drewN rowOf_setRow_same rowOf_setRow_other rowOf_setCell_same rowOf_setCell_other size_setRow setRow_drew setRow_alloc_at setRow_alloc_past one_int one_bool cell_setRow_same cell_setRow_other frozen_setRow_same frozen_setRow_other
attribute [local go_sem ↓] run_imin

set_option maxRecDepth 100000 in
set_option maxHeartbeats 32000000 in
theorem jthen_yes (a b : HV) (ha : a.rightB = true) (hb : b.rightB = true) (hga : a.k + a.t = b.f) (w : World) :
    Calls Tryz.prog 66 #[a.val, b.val] w (Ret (.tuple #[(HV.gate (thenH a b).rightB (thenH a b)).val, .bool (thenH a b).rightB]) w) := by
  have hra := shape_of ha; have hrb := shape_of hb
  have sa := right_size hra; have sb := right_size hrb
  have HA : Hid (∀ W, Calls Tryz.prog 40 #[(HV.val a)] W (Ret (.bool true) W)) := fun W => jright_is ha W
  have HB : Hid (∀ W, Calls Tryz.prog 40 #[(HV.val b)] W (Ret (.bool true) W)) := fun W => jright_is hb W
  have GA : Hid (∀ W, Calls Tryz.prog 42 #[(HV.val a)] W (Ret (.int .i64 b.f) W)) := fun W => jgives_is a ha hga W
  obtain ⟨g, hg⟩ : ∃ g, b.k + b.t = g := ⟨_, rfl⟩
  have GB : Hid (∀ W, Calls Tryz.prog 42 #[(HV.val b)] W (Ret (.int .i64 g) W)) := fun W => jgives_is b hb hg W
  have GX := Lib.hid (fun W => jgives_exact b hb hg W)
  have AB : Hid (∀ (i : Int), 0 ≤ i → i < g → ∀ W, Calls Tryz.prog 43 #[(HV.val b), .int .i64 i] W (Ret (.tuple #[.int .i64 (b.at i), .bool (decide (i < b.k))]) W)) := fun i h0 hi W => jat_is b hb i h0 (by omega) rfl rfl W
  have AA : Hid (∀ (i : Int), 0 ≤ i → i < b.k → ∀ W, Calls Tryz.prog 43 #[(HV.val a), .int .i64 i] W (Ret (.tuple #[.int .i64 (a.at i), .bool (decide (i < a.k))]) W)) := fun i h0 hi W => jat_is a ha i h0 (by omega) rfl rfl W
  have HNb : Hid (∀ i, 0 ≤ b.at i ∧ b.at i ≤ 1048576) := fun i => at_bound hrb i
  have HNa : Hid (∀ i, 0 ≤ a.at i ∧ a.at i ≤ 1048576) := fun i => at_bound hra i
  have HTd := Lib.hid (tidy_then hra hrb)
  have HAt : Hid (∀ i, 0 ≤ i → i < g → (thenH a b).at i = if i < b.k then b.at i + a.at i else b.at i) := fun i h0 hi => nums_then hra hrb i h0 (by omega)
  have HIF : Hid (∀ W, Calls Tryz.prog 59 #[HV.val (thenH a b)] W (Ret (.tuple #[(HV.val (HV.gate (HV.rightB (thenH a b)) (thenH a b))), .bool (HV.rightB (thenH a b))]) W)) := fun W => ifRight_any _ W
  have hm : imin a.k b.k = (thenH a b).k := rfl
  have hwr : IntKind.i64.wrap (g - (thenH a b).k) = (thenH a b).t := by
    have : (thenH a b).t = g - (thenH a b).k := by show (b.k + b.t) - _ = _; rw [hg]; rfl
    have h1 : 0 ≤ (thenH a b).k := HTd.out.1
    have h2 : (thenH a b).k ≤ 4 := HTd.out.2.1
    rw [IntKind.wrap_i64]; omega
  have hRg : (thenH a b).k + (thenH a b).t = g := by show imin a.k b.k + (b.k + b.t - imin a.k b.k) = g; omega
  have HP0 : Hid (hvRow ((thenH a b).pre 0) = #[.int .i64 a.f, .int .i64 (thenH a b).k, .int .i64 (thenH a b).t, .int .i64 0, .int .i64 0, .int .i64 0, .int .i64 0, .int .i64 0, .int .i64 0, .int .i64 0, .int .i64 0]) := by
    rw [pre_none HTd.out]; rfl
  have g1 : 1 ≤ g := by omega
  have g4 : g ≤ 4 := by omega
  have hkg : b.k ≤ g := by omega
  have hk0 : 0 ≤ b.k := by omega
  clear hra hrb sa sb ha hb hga hg
  generalize HV.gate (HV.rightB (thenH a b)) (thenH a b) = V at *
  generalize HV.rightB (thenH a b) = ok at *
  generalize thenH a b = R at *
  have HRg := Lib.hid hRg; clear hRg
  go_enter Tryz.func66, Tryz.ntmps66
  generalize hQ : bodyPost _ _ _ = Q0
  have HQ := Lib.hid hQ
  clear hQ
  go_wp2_with fail
  refine gen_world (fun W2 => Hid (T0 w W2 (hvRow a) (hvRow b) (hvRow HV.zero))) (Lib.hid (T0.start _ _ _ _ _ _)) ?_
  rintro w1 HT
  have N_p := HT.out.a
  have L_p := rowOf_lt N_p
  have D_p := Nat.ne_of_lt L_p
  have N_q := HT.out.b
  have L_q := rowOf_lt N_q
  have D_q := Nat.ne_of_lt L_q
  have N_r := HT.out.r
  have L_r := rowOf_lt N_r
  have D_r := Nat.ne_of_lt L_r
  refine wp_region_bx (by kernel_rfl) (by kernel_rfl) ?_
  have p_0 := bx_cell (rowOf_cell N_p 0 : _ = some (.int .i64 a.f))
  have p_1 := bx_cell (rowOf_cell N_p 1 : _ = some (.int .i64 a.k))
  have p_2 := bx_cell (rowOf_cell N_p 2 : _ = some (.int .i64 a.t))
  have p_3 := bx_cell (rowOf_cell N_p 3 : _ = some (.int .i64 a.a0))
  have p_4 := bx_cell (rowOf_cell N_p 4 : _ = some (.int .i64 a.a1))
  have p_5 := bx_cell (rowOf_cell N_p 5 : _ = some (.int .i64 a.a2))
  have p_6 := bx_cell (rowOf_cell N_p 6 : _ = some (.int .i64 a.a3))
  have p_7 := bx_cell (rowOf_cell N_p 7 : _ = some (.int .i64 a.b0))
  have p_8 := bx_cell (rowOf_cell N_p 8 : _ = some (.int .i64 a.b1))
  have p_9 := bx_cell (rowOf_cell N_p 9 : _ = some (.int .i64 a.b2))
  have p_10 := bx_cell (rowOf_cell N_p 10 : _ = some (.int .i64 a.b3))
  have q_0 := bx_cell (rowOf_cell N_q 0 : _ = some (.int .i64 b.f))
  have q_1 := bx_cell (rowOf_cell N_q 1 : _ = some (.int .i64 b.k))
  have q_2 := bx_cell (rowOf_cell N_q 2 : _ = some (.int .i64 b.t))
  have q_3 := bx_cell (rowOf_cell N_q 3 : _ = some (.int .i64 b.a0))
  have q_4 := bx_cell (rowOf_cell N_q 4 : _ = some (.int .i64 b.a1))
  have q_5 := bx_cell (rowOf_cell N_q 5 : _ = some (.int .i64 b.a2))
  have q_6 := bx_cell (rowOf_cell N_q 6 : _ = some (.int .i64 b.a3))
  have q_7 := bx_cell (rowOf_cell N_q 7 : _ = some (.int .i64 b.b0))
  have q_8 := bx_cell (rowOf_cell N_q 8 : _ = some (.int .i64 b.b1))
  have q_9 := bx_cell (rowOf_cell N_q 9 : _ = some (.int .i64 b.b2))
  have q_10 := bx_cell (rowOf_cell N_q 10 : _ = some (.int .i64 b.b3))
  clear N_p L_p D_p N_q L_q D_q N_r L_r D_r
  repeat (first | go_big_quiet_step (first | (with_reducible exact Calls.bx (HA.out _)) | (with_reducible exact Calls.bx (HB.out _)) | (with_reducible exact Calls.bx (GA.out _))) | quiet_step (first | (with_reducible exact Calls.bx (HA.out _)) | (with_reducible exact Calls.bx (HB.out _)) | (with_reducible exact Calls.bx (GA.out _))))
  refine wpQuiet_nil ?_
  intro _ hw'
  obtain ⟨g9, hw''⟩ := hw'
  subst hw''
  have hb2 := g9.h
  generalize g9.w = w2 at hb2 ⊢
  clear g9
  have HT2 := Lib.hid (HT.out.below hb2)
  clear hb2 HT HA HB GA
  clear p_0 p_1 p_2 p_3 p_4 p_5 p_6 p_7 p_8 p_9 p_10 q_0 q_1 q_2 q_3 q_4 q_5 q_6 q_7 q_8 q_9 q_10
  have N_p := HT2.out.a
  have L_p := rowOf_lt N_p
  have D_p := Nat.ne_of_lt L_p
  have N_q := HT2.out.b
  have L_q := rowOf_lt N_q
  have D_q := Nat.ne_of_lt L_q
  have N_r := HT2.out.r
  have L_r := rowOf_lt N_r
  have D_r := Nat.ne_of_lt L_r
  have p_0 : w2.cell? ⟨w.heap.size, 0, none⟩ = some (.int .i64 a.f) := rowOf_cell N_p 0
  have p_1 : w2.cell? ⟨w.heap.size, 1, none⟩ = some (.int .i64 a.k) := rowOf_cell N_p 1
  have q_1 : w2.cell? ⟨(w.heap.size + 1), 1, none⟩ = some (.int .i64 b.k) := rowOf_cell N_q 1
  go_wp2_with fail
  refine gen_world (fun W2 => Hid (TI w W2 w2.heap.size (hvRow a) (hvRow b) (hvRow HV.zero) #[.int .i64 a.f, .int .i64 R.k, .int .i64 0, .int .i64 0, .int .i64 0, .int .i64 0, .int .i64 0, .int .i64 0, .int .i64 0, .int .i64 0, .int .i64 0])) (Lib.hid (HT2.out.box _ _)) ?_
  clear p_0 p_1 q_1 HT2 hm
  clear N_p L_p D_p N_q L_q D_q N_r L_r D_r
  rintro w3 HT3
  have N_p := HT3.out.a
  have L_p := rowOf_lt N_p
  have D_p := Nat.ne_of_lt L_p
  have N_q := HT3.out.b
  have L_q := rowOf_lt N_q
  have D_q := Nat.ne_of_lt L_q
  have N_r := HT3.out.r
  have L_r := rowOf_lt N_r
  have D_r := Nat.ne_of_lt L_r
  have N_x := HT3.out.x
  have L_x := rowOf_lt N_x
  have D_x := Nat.ne_of_lt L_x
  have q_0 : w3.cell? ⟨(w.heap.size + 1), 0, none⟩ = some (.int .i64 b.f) := rowOf_cell N_q 0
  have q_1 : w3.cell? ⟨(w.heap.size + 1), 1, none⟩ = some (.int .i64 b.k) := rowOf_cell N_q 1
  have q_2 : w3.cell? ⟨(w.heap.size + 1), 2, none⟩ = some (.int .i64 b.t) := rowOf_cell N_q 2
  have q_3 : w3.cell? ⟨(w.heap.size + 1), 3, none⟩ = some (.int .i64 b.a0) := rowOf_cell N_q 3
  have q_4 : w3.cell? ⟨(w.heap.size + 1), 4, none⟩ = some (.int .i64 b.a1) := rowOf_cell N_q 4
  have q_5 : w3.cell? ⟨(w.heap.size + 1), 5, none⟩ = some (.int .i64 b.a2) := rowOf_cell N_q 5
  have q_6 : w3.cell? ⟨(w.heap.size + 1), 6, none⟩ = some (.int .i64 b.a3) := rowOf_cell N_q 6
  have q_7 : w3.cell? ⟨(w.heap.size + 1), 7, none⟩ = some (.int .i64 b.b0) := rowOf_cell N_q 7
  have q_8 : w3.cell? ⟨(w.heap.size + 1), 8, none⟩ = some (.int .i64 b.b1) := rowOf_cell N_q 8
  have q_9 : w3.cell? ⟨(w.heap.size + 1), 9, none⟩ = some (.int .i64 b.b2) := rowOf_cell N_q 9
  have q_10 : w3.cell? ⟨(w.heap.size + 1), 10, none⟩ = some (.int .i64 b.b3) := rowOf_cell N_q 10
  have x_1 : w3.cell? ⟨w2.heap.size, 1, none⟩ = some (.int .i64 R.k) := rowOf_cell N_x 1
  have x_2 : w3.cell? ⟨w2.heap.size, 2, none⟩ = some (.int .i64 0) := rowOf_cell N_x 2
  have x_f2 := rowOf_frozen N_x 2
  generalize w2.heap.size = bx at *
  refine cut_atJ (fun a' => ((((((a'.put (some 36) ((HV.val b))).put (some 37) (.int .i64 g)).put (some 38) (.pointer (some ⟨bx, 1, none⟩))).put (some 39) (.int .i64 R.k)).put (some 40) (.int .i64 R.t)).put (some 41) (.pointer (some ⟨bx, 2, none⟩)))) (fun W2 => Hid (TI w W2 bx (hvRow a) (hvRow b) (hvRow HV.zero) (hvRow (R.pre 0)))) ?_ ?_
  · clear N_p N_q N_r D_p D_q D_r L_p L_r
    go_region_with (go_at_call 42; refine (GX.out _).mono ?_; rintro e w' ⟨rfl, rfl⟩)
    all_goals exact ⟨by kernel_rfl, by
      rw [HP0.out]
      first
        | exact Lib.hid ((HT3.out.alloc _).drew.set 2 _ rfl)
        | exact Lib.hid ((HT3.out.drew.alloc _).set 2 _ rfl)
        | exact Lib.hid ((HT3.out.drew.set 2 _ rfl).alloc _)
        | exact Lib.hid (((HT3.out.alloc _).set 2 _ rfl).drew)
        | exact Lib.hid ((HT3.out.set 2 _ rfl).alloc _)
        | exact Lib.hid ((HT3.out.alloc _).set 2 _ rfl)
        | exact Lib.hid (((HT3.out.set 2 _ rfl).alloc _).drew)⟩
  clear x_1 x_2 x_f2 HT3 GX HP0 hwr q_0 q_1 q_2 q_3 q_4 q_5 q_6 q_7 q_8 q_9 q_10
  clear N_p L_p D_p N_q L_q D_q N_r L_r D_r N_x L_x D_x
  rintro w4 HT4
  have N_p := HT4.out.a
  have L_p := rowOf_lt N_p
  have D_p := Nat.ne_of_lt L_p
  have N_q := HT4.out.b
  have L_q := rowOf_lt N_q
  have D_q := Nat.ne_of_lt L_q
  have N_r := HT4.out.r
  have L_r := rowOf_lt N_r
  have D_r := Nat.ne_of_lt L_r
  have N_x := HT4.out.x
  have L_x := rowOf_lt N_x
  have D_x := Nat.ne_of_lt L_x
  go_simp
  go_wp2_with fail
  refine (GB.out _).mono ?_
  rintro e w5 ⟨rfl, hb5⟩
  have HT5 := Lib.hid (HT4.out.below hb5)
  clear hb5 HT4 GB
  clear N_p L_p D_p N_q L_q D_q N_r L_r D_r N_x L_x D_x
  go_wp2_with fail
  go_loopg [44] g.toNat (fun gg i wr => ∃ k : Nat, i = .int .i64 (k : Int) ∧ (k : Int) ≤ g ∧ g.toNat - k ≤ gg ∧ Hid (TI w wr bx (hvRow a) (hvRow b) (hvRow HV.zero) (hvRow (R.pre (k : Int)))))
  case atStart => exact ⟨0, rfl, by omega, by omega, HT5.out⟩
  case round =>
    clear HT5
    obtain ⟨k, rfl, kg, hgg, HT⟩ := hrel
    have N_p := HT.out.a
    have L_p := rowOf_lt N_p
    have D_p := Nat.ne_of_lt L_p
    have N_q := HT.out.b
    have L_q := rowOf_lt N_q
    have D_q := Nat.ne_of_lt L_q
    have N_r := HT.out.r
    have L_r := rowOf_lt N_r
    have D_r := Nat.ne_of_lt L_r
    have N_x := HT.out.x
    have L_x := rowOf_lt N_x
    have D_x := Nat.ne_of_lt L_x
    by_cases hlt : (k : Int) < g
    · have HC := Lib.hid (AB.out k (by omega) hlt)
      have HCa : Hid ((k : Int) < b.k → ∀ W, Calls Tryz.prog 43 #[(HV.val a), .int .i64 (k : Int)] W (Ret (.tuple #[.int .i64 (a.at k), .bool (decide ((k : Int) < a.k))]) W)) := fun h => AA.out k (by omega) h
      have hX := HAt.out k (by omega) hlt
      obtain ⟨B0, B1⟩ := HNb.out k
      obtain ⟨A0, A1⟩ := HNa.out k
      have HK := Lib.hid (fun (h : (k : Int) < R.k) => pre_kept HTd.out rfl h)
      have HL := Lib.hid (fun (j : Nat) (h : (k : Int) - R.k = (j : Int)) (h4 : j < 4) => pre_new HTd.out h h4)
      have hR0 : 0 ≤ R.k := HTd.out.1
      have hR4 : R.k ≤ 4 := HTd.out.2.1
      generalize b.at k = B at *
      generalize a.at k = A at *
      generalize R.at k = X at *
      clear HAt HNb HNa AA AB HIF HTd HQ
      go_wp2_with fail
      refine (HC.out _).mono ?_
      rintro e w6 ⟨rfl, hb6⟩
      have HT6 := Lib.hid (HT.out.below hb6)
      clear hb6 HT HC
      clear N_p L_p D_p N_q L_q D_q N_r L_r D_r N_x L_x D_x
      have N_p := HT6.out.a
      have L_p := rowOf_lt N_p
      have D_p := Nat.ne_of_lt L_p
      have N_q := HT6.out.b
      have L_q := rowOf_lt N_q
      have D_q := Nat.ne_of_lt L_q
      have N_r := HT6.out.r
      have L_r := rowOf_lt N_r
      have D_r := Nat.ne_of_lt L_r
      have N_x := HT6.out.x
      have L_x := rowOf_lt N_x
      have D_x := Nat.ne_of_lt L_x
      by_cases hkb : (k : Int) < b.k
      · rw [if_pos hkb] at hX
        subst hX
        have hwr : IntKind.i64.wrap (B + A) = B + A := by rw [IntKind.wrap_i64]; omega
        have HCb := Lib.hid (HCa.out hkb)
        clear HCa
        rw [show decide ((k : Int) < b.k) = true from decide_eq_true hkb]
        clear hkb
        go_wp2_with fail
        refine (HCb.out _).mono ?_
        rintro e w7 ⟨rfl, hb7⟩
        have HT7 := Lib.hid (HT6.out.below hb7)
        clear hb7 HT6 HCb
        clear N_p L_p D_p N_q L_q D_q N_r L_r D_r N_x L_x D_x
        have N_p := HT7.out.a
        have L_p := rowOf_lt N_p
        have D_p := Nat.ne_of_lt L_p
        have N_q := HT7.out.b
        have L_q := rowOf_lt N_q
        have D_q := Nat.ne_of_lt L_q
        have N_r := HT7.out.r
        have L_r := rowOf_lt N_r
        have D_r := Nat.ne_of_lt L_r
        have N_x := HT7.out.x
        have L_x := rowOf_lt N_x
        have D_x := Nat.ne_of_lt L_x
        have x_1 : w7.cell? ⟨bx, 1, none⟩ = some (.int .i64 R.k) := rowOf_cell N_x 1
        by_cases hkm : (k : Int) < R.k
        · obtain ⟨c, x_c⟩ := hv_cell N_x (3 + k) (by omega)
          have x_f := rowOf_frozen N_x (3 + k)
          have HK2 := Lib.hid (HK.out hkm)
          clear HK HL
          go_wp2
          go_roundg (g.toNat - (k + 1))
          case measure => omega
          case rel => exact ⟨k + 1, by go_num, by omega, by omega, Lib.hid (HT7.out.set _ _ HK2.out)⟩
        · obtain ⟨j, hj⟩ : ∃ j : Nat, (k : Int) - R.k = (j : Int) := ⟨((k : Int) - R.k).toNat, by omega⟩
          have hj4 : j < 4 := by omega
          obtain ⟨c, x_c⟩ := hv_cell N_x (7 + j) (by omega)
          have x_f := rowOf_frozen N_x (7 + j)
          have HK2 := Lib.hid (HL.out j hj hj4)
          have hwj : IntKind.i64.wrap ((k : Int) - R.k) = (j : Int) := by rw [IntKind.wrap_i64]; omega
          clear HK HL hj
          go_wp2
          go_roundg (g.toNat - (k + 1))
          case measure => omega
          case rel => exact ⟨k + 1, by go_num, by omega, by omega, Lib.hid (HT7.out.set _ _ HK2.out)⟩
      · rw [if_neg hkb] at hX
        subst hX
        clear HCa
        rw [show decide ((k : Int) < b.k) = false from decide_eq_false hkb]
        clear hkb
        have x_1 : w6.cell? ⟨bx, 1, none⟩ = some (.int .i64 R.k) := rowOf_cell N_x 1
        by_cases hkm : (k : Int) < R.k
        · obtain ⟨c, x_c⟩ := hv_cell N_x (3 + k) (by omega)
          have x_f := rowOf_frozen N_x (3 + k)
          have HK2 := Lib.hid (HK.out hkm)
          clear HK HL
          go_wp2
          go_roundg (g.toNat - (k + 1))
          case measure => omega
          case rel => exact ⟨k + 1, by go_num, by omega, by omega, Lib.hid (HT6.out.set _ _ HK2.out)⟩
        · obtain ⟨j, hj⟩ : ∃ j : Nat, (k : Int) - R.k = (j : Int) := ⟨((k : Int) - R.k).toNat, by omega⟩
          have hj4 : j < 4 := by omega
          obtain ⟨c, x_c⟩ := hv_cell N_x (7 + j) (by omega)
          have x_f := rowOf_frozen N_x (7 + j)
          have HK2 := Lib.hid (HL.out j hj hj4)
          have hwj : IntKind.i64.wrap ((k : Int) - R.k) = (j : Int) := by rw [IntKind.wrap_i64]; omega
          clear HK HL hj
          go_wp2
          go_roundg (g.toNat - (k + 1))
          case measure => omega
          case rel => exact ⟨k + 1, by go_num, by omega, by omega, Lib.hid (HT6.out.set _ _ HK2.out)⟩
    · have hq := pre_all HTd.out (i := (k : Int)) (by have := HRg.out; omega)
      rw [hq] at HT N_x
      clear hq HAt HNb HNa AA AB HTd HRg
      go_wp2_with fail
      refine (HIF.out _).mono ?_
      rintro e w6 ⟨rfl, hb6⟩
      have HT6 := Lib.hid (HT.out.below hb6)
      clear hb6 HT HIF
      clear N_p L_p D_p N_q L_q D_q N_r L_r D_r N_x L_x D_x
      have N_p := HT6.out.a
      have L_p := rowOf_lt N_p
      have D_p := Nat.ne_of_lt L_p
      have N_q := HT6.out.b
      have L_q := rowOf_lt N_q
      have D_q := Nat.ne_of_lt L_q
      have N_r := HT6.out.r
      have L_r := rowOf_lt N_r
      have D_r := Nat.ne_of_lt L_r
      have N_x := HT6.out.x
      have L_x := rowOf_lt N_x
      have D_x := Nat.ne_of_lt L_x
      go_wp2
      rw [← HQ.out]
      exact bodyPost_ret (v := .tuple #[(HV.val V), .bool ok]) (by simp [results, Tryz.results66, go_sem, N_r, L_r, D_r]) rfl ⟨rfl, (HT6.out.setR _).B⟩
theorem jthen_any (a b : HV) (w : World) : Calls Tryz.prog 66 #[a.val, b.val] w (Ret (.tuple #[(thenV a b).val, .bool (thenOk a b)]) w) := by
  cases hy : (a.rightB && b.rightB && (a.k + a.t == b.f))
  · have hn : thenOk a b = false := by unfold thenOk; rw [hy]; rfl
    have q := jthen_no a b hy w
    unfold thenV
    rw [hn]
    exact q
  · simp only [Bool.and_eq_true, beq_iff_eq] at hy
    have q := jthen_yes a b hy.1.1 hy.1.2 hy.2 w
    have e : thenOk a b = (thenH a b).rightB := by unfold thenOk; rw [hy.1.1, hy.1.2, hy.2]; simp
    unfold thenV
    rw [e]
    exact q
end Go.Proofs.YtjaahmgokiobjaaGreat
/- append to a row of the call's own: the block stays, or it is new -/
namespace Go.Proofs.YtjaahmgokiobjaaGreat
open Go.RowKit
set_option linter.unusedVariables false
set_option linter.unusedSimpArgs false

/-- the block stays, or it is a new one -/
def StaysOrNew (w : World) (v v' : Value) : Prop := v'.ownBlock = v.ownBlock ∨ ∀ k, v'.ownBlock = some k → w.heap.size ≤ k
namespace RowKind
variable {α : Type} {R : RowKind α}
theorem run_appendB {w : World} {B : Nat} {v vx : Value} {xs ys : List α} (hown : R.Own B w v xs) (hz : R.App w vx ys) (hlen : xs.length + ys.length ≤ 1000000) (hB : B ≤ w.heap.size) (ty : TypeId) :
    ∃ v' w', (Builtin.append_ #[R.tS, R.tS] ty #[v, vx]).run Tryz.prog w = .ok v' w' ∧ R.Own B w' v' (xs ++ ys) ∧ w.grownBy w' v.ownBlock ∧ StaysOrNew w v v' := by
  obtain ⟨i0, hi, hz0, hz1, hz2⟩ := info_parts R.info
  obtain ⟨ad, c, rfl, hc⟩ := hz
  have hm : xs.length + ys.length ≤ maxLen := by unfold maxLen; omega
  obtain ⟨v', w', hr, h1, h2, _⟩ := run_append_own (P := Tryz.prog) w B R.tS ty R.tE i0 R.zero R.k R.bytes R.under hi hz0 hz1 hz2 R.zlen R.k0 v xs.length (R.cells xs) hown ad ys.length c (R.cells ys) (R.cells_len ys) hc one_cells hm (byt_ok hlen) hB
  refine ⟨v', w', hr, ?_, h2, ?_⟩
  · unfold Own
    rw [R.cells_append, List.length_append]
    exact h1
  · obtain ⟨hl, ⟨rfl, hn⟩ | ⟨g, cap, cur, rfl, hg0, hg, hle, hmx, hcs, htk⟩⟩ := hown
    · have hx : xs = [] := List.length_eq_zero_iff.1 hn
      subst hx
      obtain ⟨v2, w2, hr2, k1, _, _⟩ := run_append_own (P := Tryz.prog) w w.heap.size R.tS ty R.tE i0 R.zero R.k R.bytes R.under hi hz0 hz1 hz2 R.zlen R.k0 (.slice none 0 0) 0 [] (World.ownsRow_nil w _ R.tE R.k) ad ys.length c (R.cells ys) (R.cells_len ys) hc one_cells (by simpa using hm) (byt_ok (by simpa using hlen)) (Nat.le_refl _)
      rw [hr] at hr2
      injection hr2 with e1 e2
      subst e1
      subst e2
      exact .inr fun k hk => (World.ownsRow.lt k1 k hk).1
    · by_cases hroom : xs.length + ys.length ≤ cap
      · have hk := R.k0
        have hsz : ∀ j, j < (R.cells ys).length → xs.length * i0.size + j < cur.size := fun j hj => by
          rw [R.cells_len] at hj
          rw [hcs, hz1]
          have : (xs.length + ys.length) * R.k ≤ cap * R.k := Nat.mul_le_mul_right _ hroom
          rw [Nat.add_mul] at this
          omega
        have hrun := run_append_room_cells (P := Tryz.prog) w R.tS ty R.tE i0 R.under hi g 0 xs.length cap ad ys.length c (R.cells ys) (by rw [hz1]; exact R.cells_len ys) hc one_cells hroom
          (fun j hj => by rw [Nat.zero_add]; unfold World.cell?; simp only [hg]; rw [Array.getElem?_eq_getElem (hsz j hj)]; rfl)
          (fun j hj => by unfold World.frozen?; simp only [hg]; simp)
        rw [hr] at hrun
        injection hrun with e1 e2
        subst e1
        exact .inl rfl
      · obtain ⟨v2, w2, hr2, k1, _⟩ := run_append_arg_grows (P := Tryz.prog) w R.tS ty R.tE i0 R.zero R.k R.bytes R.under hi hz0 hz1 hz2 R.zlen R.k0 ⟨g, 0, none⟩ xs.length cap (R.cells xs) (R.cells_len xs)
          (fun j u hj => by
            rw [Addr.add_lit, Nat.zero_add]
            unfold World.cell?
            simp only [hg]
            rw [← htk] at hj
            rw [List.getElem?_take] at hj
            split at hj
            · simpa using hj
            · cases hj)
          ad ys.length c (R.cells ys) (R.cells_len ys) hc (by omega) hm (byt_ok hlen)
        rw [hr] at hr2
        injection hr2 with e1 e2
        subst e1
        subst e2
        exact .inr fun k hk => (World.ownsRow.lt k1 k hk).1
theorem wp_of_runB {P : Program} {o : Oper} {a : Act} {K : Act → World → Prop} {Q : Exit → Act → World → Prop} {w w' : World} {v : Value} {s x : Operand} {t : TypeId}
    (ho : o.op = .call { callee := .builtin .append, args := #[s, x], argTypes := #[t, t] }) (hr : (Builtin.append_ #[t, t] o.type #[a.eval s, a.eval x]).run P w = .ok v w') (h : K (a.put o.dst v) w') : o.wp P a w K Q := by
  unfold Oper.wp execOp
  simp only [ho, resolve, invoke, builtin, Sem.run_bind, Sem.run_pure, Result.andThen_ok, List.map_toArray, List.map_cons, List.map_nil, hr]
  exact h
theorem Own.appendB {ops : Array Oper} {rest : List Oper} {o : Oper} {a : Act} {Q : Exit → Act → World → Prop} {w : World} (hgd : o.guard = none) (s x : Operand)
    (ho : o.op = .call { callee := .builtin .append, args := #[s, x], argTypes := #[R.tS, R.tS] }) {B : Nat} {v vx : Value} {xs : List α} (hown : R.Own B w v xs) (hs : a.eval s = v) (ys : List α)
    (hx : a.eval x = vx) (hz : R.App w vx ys) (hlen : xs.length + ys.length ≤ 1000000) (hbase : B ≤ w.heap.size)
    (h : ∀ v' w', R.Own B w' v' (xs ++ ys) → w.grownBy w' v.ownBlock → StaysOrNew w v v' → wpList Tryz.prog ops Q rest (a.put o.dst v') w') : wpList Tryz.prog ops Q (o :: rest) a w := by
  obtain ⟨v', w', hr, h1, h2, h3⟩ := run_appendB hown hz hlen hbase o.type
  refine wpList_plain hgd fun _ hK => wp_of_runB ho (by rw [hs, hx]; exact hr) (hK _ _ (h v' w' h1 h2 h3))
theorem Own.appendBR {ops : Array Oper} {o : Oper} {a : Act} {K : Act → World → Prop} {Q : Exit → Act → World → Prop} {E : Prop} {w : World} (hgd : o.guard = none) (s x : Operand)
    (ho : o.op = .call { callee := .builtin .append, args := #[s, x], argTypes := #[R.tS, R.tS] }) {B : Nat} {v vx : Value} {xs : List α} (hown : R.Own B w v xs) (hs : a.eval s = v) (ys : List α)
    (hx : a.eval x = vx) (hz : R.App w vx ys) (hlen : xs.length + ys.length ≤ 1000000) (hbase : B ≤ w.heap.size)
    (h : ∀ v' w', R.Own B w' v' (xs ++ ys) → w.grownBy w' v.ownBlock → StaysOrNew w v v' → K (a.put o.dst v') w') :
    if Region.wanted o (yielded ops a.tmps) = true then Oper.wp Tryz.prog o a w K Q else E := by
  have hw : Region.wanted o (yielded ops a.tmps) = true := by simp [Region.wanted, hgd]
  rw [if_pos hw]
  obtain ⟨v', w', hr, h1, h2, h3⟩ := run_appendB hown hz hlen hbase o.type
  exact wp_of_runB ho (by rw [hs, hx]; exact hr) (h v' w' h1 h2 h3)
end RowKind
end Go.Proofs.YtjaahmgokiobjaaGreat
