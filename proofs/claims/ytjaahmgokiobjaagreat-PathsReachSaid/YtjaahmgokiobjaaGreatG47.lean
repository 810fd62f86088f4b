/- the document's Reaches -/
import Derived.Test.YtjaahmgokiobjaaGreatG42
import Derived.Test.YtjaahmgokiobjaaGreatG45
import Derived.Test.YtjaahmgokiobjaaGreatG46
import Derived.Test.YtjaahmgokiobjaaGreatG29
namespace Go.Proofs.YtjaahmgokiobjaaGreat
open Go.RowKit
set_option linter.unusedVariables false
set_option linter.unusedSimpArgs false

theorem comeB_eq (t u : TV) (x : HV) : comeB t u x = (applyOk x t && (applyT x t).le u) := rfl
set_option maxRecDepth 100000 in
set_option maxHeartbeats 40000000 in
theorem rreach_in {w : World} {bt N : Nat} {rws : Nat → Nat → List HV} (T : TabW w bt N rws) (hN : N ≤ 900000) (a b : Nat) (ha : a < N) (hb : b < N) (t u : TV) (hl : (rws a b).length ≤ 1500000000000) :
    Calls Tryz.prog 8 #[.slice (some ⟨bt, 0, none⟩) N N, .int .i64 (a : Int), t.val, .int .i64 (b : Int), u.val] w (Ret (.bool ((rws a b).any (comeB t u))) w) := by
  obtain ⟨blk, h1, h2⟩ := T.row a ha
  obtain ⟨q, l, c, h3, h4, h5⟩ := h2 b hb
  have b1 : bt < w.heap.size := World.block_lt_of_cell? _ _ h1
  have b2 : blk < w.heap.size := World.block_lt_of_cell? _ _ h3
  have HCl : Hid (∀ W, Below w.heap.size w W → W.cell? ⟨bt, a, none⟩ = some (.slice (some ⟨blk, 0, none⟩) N N) ∧ W.cell? ⟨blk, b, none⟩ = some (.slice q l c)) := fun W hW => ⟨(hW.cell (p := ⟨bt, a, none⟩) b1).trans h1, (hW.cell (p := ⟨blk, b, none⟩) b2).trans h3⟩
  have HIs := Lib.hid h5
  have HAp := Lib.hid (fun x W => rapply_any x t W)
  have HLe := Lib.hid (fun (y : TV) W => rtle_any y u W)
  have haz : (a : Int) < (N : Int) := by omega
  have hbz : (b : Int) < (N : Int) := by omega
  have da : decide (N ≤ a) = false := decide_eq_false (by omega)
  have db : decide (N ≤ b) = false := decide_eq_false (by omega)
  have da0 : decide ((a : Int) < 0) = false := decide_eq_false (by omega)
  have db0 : decide ((b : Int) < 0) = false := decide_eq_false (by omega)
  generalize rws a b = X at *
  subst h4
  clear h1 h2 h3 h5 T b1 b2
  have HT0 : Hid (rowOf ((w.alloc (.cells #[.int .i64 t.d, .int .i64 t.c0, .int .i64 t.c1, .int .i64 t.c2, .int .i64 t.c3] 29)).alloc (.cells #[.int .i64 u.d, .int .i64 u.c0, .int .i64 u.c1, .int .i64 u.c2, .int .i64 u.c3] 29)) w.heap.size = some (tvRow t)) := row_old (row_new rfl)
  have HU0 : Hid (rowOf ((w.alloc (.cells #[.int .i64 t.d, .int .i64 t.c0, .int .i64 t.c1, .int .i64 t.c2, .int .i64 t.c3] 29)).alloc (.cells #[.int .i64 u.d, .int .i64 u.c0, .int .i64 u.c1, .int .i64 u.c2, .int .i64 u.c3] 29)) (w.heap.size + 1) = some (tvRow u)) := row_new (by simp)
  have HB0 : Hid (Below w.heap.size w ((w.alloc (.cells #[.int .i64 t.d, .int .i64 t.c0, .int .i64 t.c1, .int .i64 t.c2, .int .i64 t.c3] 29)).alloc (.cells #[.int .i64 u.d, .int .i64 u.c0, .int .i64 u.c1, .int .i64 u.c2, .int .i64 u.c3] 29))) := ((Below.refl _ _).alloc (Nat.le_refl _) _).alloc (by simp) _
  go_enter Tryz.func8, Tryz.ntmps8
  go_wp2_with fail
  refine gen_world (fun W2 => Hid (Below w.heap.size w W2) ∧ Hid (rowOf W2 w.heap.size = some (tvRow t)) ∧ Hid (rowOf W2 (w.heap.size + 1) = some (tvRow u))) ⟨HB0, HT0, HU0⟩ ?_
  clear HB0 HT0 HU0
  rintro w2 ⟨HB2, HT2, HU2⟩
  go_loopg [11] X.length (fun gg iv wr => ∃ k : Nat, k ≤ X.length ∧ X.length - k ≤ gg ∧ iv = .int .i64 (k : Int) ∧ Hid (∀ j, j < k → comeB t u X[j]! = false) ∧ Hid (Below w2.heap.size w2 wr))
  case atStart => exact ⟨0, Nat.zero_le _, by omega, rfl, fun j hj => absurd hj (Nat.not_lt_zero j), Below.refl _ _⟩
  case round =>
    obtain ⟨k, hk, hg, rfl, HM, HB⟩ := hrel
    have HBw : Hid (Below w.heap.size w wr) := bcall HB2.out HB.out HB2.out.size
    obtain ⟨g1, g2⟩ := HCl.out wr HBw.out
    by_cases hlt : k < X.length
    · have hkz : (k : Int) < (X.length : Int) := by omega
      obtain ⟨pq, cq, eq1, hop⟩ := RowKind.Is.opened HIs.out
      simp only [Value.slice.injEq] at eq1
      obtain ⟨rfl, _, rfl⟩ := eq1
      obtain ⟨bh, oh, rfl, hbh, hrh⟩ := hop k hlt
      have HE := Lib.hid (fun W (hW : Below wr.heap.size wr W) => elem_cells (hop_elem hrh hbh (bcall HBw.out hW HBw.out.size) k hlt))
      have HK : Hid (∀ W, Below wr.heap.size wr W → (W.cell? ⟨bt, a, none⟩ = some (.slice (some ⟨blk, 0, none⟩) N N) ∧ W.cell? ⟨blk, b, none⟩ = some (.slice (some ⟨bh, oh, none⟩) X.length c)) ∧ (rowOf W w.heap.size = some (tvRow t) ∧ rowOf W (w.heap.size + 1) = some (tvRow u))) := fun W hW => ⟨HCl.out W (bcall HBw.out hW HBw.out.size), rowOf_below HT2.out (bcall HB.out hW HB.out.size) (rowOf_lt HT2.out), rowOf_below HU2.out (bcall HB.out hW HB.out.size) (rowOf_lt HU2.out)⟩
      have hcb := comeB_eq t u X[k]!
      generalize hx : X[k]! = x at *
      have HX := Lib.hid hx
      have HApx := Lib.hid (fun W => HAp.out x W)
      generalize applyT x t = y at *
      generalize applyOk x t = ok at *
      have HCB := Lib.hid hcb
      have HLy := Lib.hid (fun W => HLe.out y W)
      clear hcb hx hop hrh HAp
      go_wp2_with fail
      refine wp_region_float (ka := 15) (ks := 16) (d := 12) (oa := _) (os := _) (ta := []) (ts := [57]) (pv := fun b => .pointer (some ⟨b, 0, none⟩)) (us := undef) (B1 := fun b W => W.heap[b]? = some (.cells (tvRow ⟨0, 0, 0, 0, 0⟩) 29 (0, 0))) (B2 := fun b W => W.heap[b]? = some (.cells (tvRow y) 29 (0, 0))) (fin := ?fin) (m := false) (by kernel_rfl) rfl rfl rfl rfl rfl (by kernel_rfl) (by kernel_rfl) (by simp) ?st1 ?st2 ?ha ?hs ?h ?hQ
      case h =>
        intro V hV
        simp only [flo, List.set_cons_succ, List.set_cons_zero]
        obtain ⟨⟨x0, x1⟩, ⟨y0, _⟩⟩ := HK.out V hV.1
        obtain ⟨z0, z1, z2, z3, z4, z5, z6, z7, z8, z9, z10⟩ := HE.out V hV.1
        have X0 := fun p : Bd false V => bd_cell x0 p
        have X1 := fun p : Bd false V => bd_cell x1 p
        have Y0 := fun p : Bd false V => bd_cell (rowOf_cell y0 0 : _ = some (Value.int .i64 t.d)) p
        have Y1 := fun p : Bd false V => bd_cell (rowOf_cell y0 1 : _ = some (Value.int .i64 t.c0)) p
        have Y2 := fun p : Bd false V => bd_cell (rowOf_cell y0 2 : _ = some (Value.int .i64 t.c1)) p
        have Y3 := fun p : Bd false V => bd_cell (rowOf_cell y0 3 : _ = some (Value.int .i64 t.c2)) p
        have Y4 := fun p : Bd false V => bd_cell (rowOf_cell y0 4 : _ = some (Value.int .i64 t.c3)) p
        have Z0 := fun p : Bd false V => bd_cell z0 p
        have Z1 := fun p : Bd false V => bd_cell z1 p
        have Z2 := fun p : Bd false V => bd_cell z2 p
        have Z3 := fun p : Bd false V => bd_cell z3 p
        have Z4 := fun p : Bd false V => bd_cell z4 p
        have Z5 := fun p : Bd false V => bd_cell z5 p
        have Z6 := fun p : Bd false V => bd_cell z6 p
        have Z7 := fun p : Bd false V => bd_cell z7 p
        have Z8 := fun p : Bd false V => bd_cell z8 p
        have Z9 := fun p : Bd false V => bd_cell z9 p
        have Z10 := fun p : Bd false V => bd_cell z10 p
        clear x0 x1 y0 z0 z1 z2 z3 z4 z5 z6 z7 z8 z9 z10
        have K2 : Hid (∀ p : Bd false V, Calls Tryz.prog 21 #[x.val, t.val] p.w (Ret (.tuple #[y.val, .bool ok]) p.w)) := fun p => HApx.out p.w
        repeat (first | go_big_quiet_step (first | (with_reducible exact Calls.bd (K2.out _))) | quiet_step (first | (with_reducible exact Calls.bd (K2.out _))))
        refine wpQuiet_nil ?_
        rfl
      case st1 => exact fun b W W' h hb => (hb.block b (Array.getElem?_eq_some_iff.1 h).1).trans h
      case st2 => exact fun b W W' h hb => (hb.block b (Array.getElem?_eq_some_iff.1 h).1).trans h
      case ha =>
        intro ρ W _
        refine ⟨W.alloc (.cells (tvRow ⟨0, 0, 0, 0, 0⟩) 29), ?_, ⟨(Below.refl _ _).alloc (Nat.le_refl _) _, fun _ => Nat.le_refl _⟩, heap_alloc_new W _⟩
        simp [execOp, go_sem]
        all_goals rfl
      case hs =>
        intro c W b K hb hB h1 hd ht hK
        have h18 := ht 57 (by simp)
        have hr : rowOf W b = some (tvRow ⟨0, 0, 0, 0, 0⟩) := by unfold rowOf; rw [h1]; simp
        have h18' : c.eval (.tmp 57) = y.val := h18
        rw [storeT, hd, h18']
        simp only [rowAt_head, hr]
        rw [if_pos ⟨rfl, rfl, by decide, rfl⟩]
        exact hK _ ⟨below_setRow hB.1 _ _ hb, fun e => by cases e⟩ (RowKind.heap_set h1)
      case hQ =>
        intro b2 W hb hB hh
        simp only [Act.put, List.setIfInBounds_toArray, List.set_cons_succ, List.set_cons_zero]
        have HBW := Lib.hid hB.1
        have HHB : Hid (Boxed W b2 (tvRow y) 29) := hh
        obtain ⟨_, _, hu⟩ := HK.out W hB.1
        have u0 := (rowOf_cell hu 0 : _ = some (Value.int .i64 u.d))
        have u1 := (rowOf_cell hu 1 : _ = some (Value.int .i64 u.c0))
        have u2 := (rowOf_cell hu 2 : _ = some (Value.int .i64 u.c1))
        have u3 := (rowOf_cell hu 3 : _ = some (Value.int .i64 u.c2))
        have u4 := (rowOf_cell hu 4 : _ = some (Value.int .i64 u.c3))
        have v0 : W.cell? ⟨b2, 0, none⟩ = some (.int .i64 y.d) := HHB.out.cell 0
        have v1 : W.cell? ⟨b2, 1, none⟩ = some (.int .i64 y.c0) := HHB.out.cell 1
        have v2 : W.cell? ⟨b2, 2, none⟩ = some (.int .i64 y.c1) := HHB.out.cell 2
        have v3 : W.cell? ⟨b2, 3, none⟩ = some (.int .i64 y.c2) := HHB.out.cell 3
        have v4 : W.cell? ⟨b2, 4, none⟩ = some (.int .i64 y.c3) := HHB.out.cell 4
        have HBk := Lib.hid (bcall HB.out HBW.out HB.out.size)
        have HBz := Lib.hid (bcall HBw.out HBW.out HBw.out.size)
        clear hb hB hh hu HK HE HHB HBw HBW HB
        have hno : Hid (comeB t u x = false → ∀ j, j < k + 1 → comeB t u X[j]! = false) := fun e j hj => by
          by_cases q : j = k
          · subst q; rw [HX.out]; exact e
          · exact HM.out j (by omega)
        have hyes : Hid (comeB t u x = true → X.any (comeB t u) = true) := fun e => List.any_eq_true.2 ⟨X[k]!, by rw [getElem!_pos X k hlt]; exact List.getElem_mem _, by rw [HX.out]; exact e⟩
        cases ok
        · have HNo := Lib.hid (hno.out (by rw [HCB.out]; rfl))
          clear hno hyes
          go_wp2_with fail
          go_roundg (X.length - (k + 1))
          case measure => omega
          case rel => exact ⟨k + 1, by omega, by omega, by go_num, HNo.out, HBk.out⟩
        · cases hle : y.le u
          · rw [hle] at HCB HLy
            have HNo := Lib.hid (hno.out (by rw [HCB.out]; rfl))
            clear hno hyes
            go_wp2_with fail
            refine (HLy.out _).mono ?_
            rintro e w7 ⟨rfl, hb7⟩
            have HB7 := Lib.hid (bcall HBk.out hb7 HBk.out.size)
            clear hb7
            go_wp2_with fail
            go_roundg (X.length - (k + 1))
            case measure => omega
            case rel => exact ⟨k + 1, by omega, by omega, by go_num, HNo.out, HB7.out⟩
          · rw [hle] at HCB HLy
            have HYes := Lib.hid (hyes.out (by rw [HCB.out]; rfl))
            clear hno hyes
            go_wp2_with fail
            refine (HLy.out _).mono ?_
            rintro e w7 ⟨rfl, hb7⟩
            have HB7 := Lib.hid (bcall HBz.out hb7 HBz.out.size)
            clear hb7
            go_wp2
            go_returns
            exact ⟨ret_bool HYes.out.symm, HB7.out⟩
    · obtain rfl : k = X.length := by omega
      have HNo : Hid (X.any (comeB t u) = false) := by
        cases q : X.any (comeB t u)
        · rfl
        · obtain ⟨x, hx, hq⟩ := List.any_eq_true.1 q
          obtain ⟨j, hj, e⟩ := List.getElem_of_mem hx
          have := HM.out j hj
          rw [getElem!_pos X j hj, e, hq] at this
          cases this
      go_wp2
      go_returns
      exact ⟨ret_bool HNo.out.symm, HBw.out⟩
set_option maxRecDepth 100000 in
set_option maxHeartbeats 8000000 in
theorem rreach_out {w : World} {bt N : Nat} (n m : Int) (t u : TV) (h : ¬ ((0 ≤ n ∧ n < (N : Int)) ∧ 0 ≤ m ∧ m < (N : Int))) :
    Calls Tryz.prog 8 #[.slice (some ⟨bt, 0, none⟩) N N, .int .i64 n, t.val, .int .i64 m, u.val] w (Ret (.bool false) w) := by
  have HB0 : Hid (Below w.heap.size w ((w.alloc (.cells #[.int .i64 t.d, .int .i64 t.c0, .int .i64 t.c1, .int .i64 t.c2, .int .i64 t.c3] 29)).alloc (.cells #[.int .i64 u.d, .int .i64 u.c0, .int .i64 u.c1, .int .i64 u.c2, .int .i64 u.c3] 29))) := ((Below.refl _ _).alloc (Nat.le_refl _) _).alloc (by simp) _
  by_cases h1 : n < 0
  · go_enter Tryz.func8, Tryz.ntmps8
    go_wp2
    go_returns
    exact ⟨rfl, HB0.out⟩
  · by_cases h2 : (N : Int) ≤ n
    · go_enter Tryz.func8, Tryz.ntmps8
      go_wp2
      go_returns
      exact ⟨rfl, HB0.out⟩
    · by_cases h3 : m < 0
      · go_enter Tryz.func8, Tryz.ntmps8
        go_wp2
        go_returns
        exact ⟨rfl, HB0.out⟩
      · have h4 : (N : Int) ≤ m := by omega
        go_enter Tryz.func8, Tryz.ntmps8
        go_wp2
        go_returns
        exact ⟨rfl, HB0.out⟩
theorem rreach_u {w : World} {bt N : Nat} {rws : Nat → Nat → List HV} (T : TabW w bt N rws) (hN : N ≤ 900000) (n m : Int) (t u : TV) (hl : (stepsZ rws N n m).length ≤ 1500000000000) :
    Calls Tryz.prog 8 #[.slice (some ⟨bt, 0, none⟩) N N, .int .i64 n, t.val, .int .i64 m, u.val] w (Ret (.bool ((stepsZ rws N n m).any (comeB t u))) w) := by
  unfold stepsZ at *
  by_cases h : (0 ≤ n ∧ n < (N : Int)) ∧ 0 ≤ m ∧ m < (N : Int)
  · rw [if_pos h] at *
    obtain ⟨a, rfl⟩ : ∃ a : Nat, n = (a : Int) := ⟨n.toNat, by omega⟩
    obtain ⟨b, rfl⟩ : ∃ b : Nat, m = (b : Int) := ⟨m.toNat, by omega⟩
    exact rreach_in T hN a b (by omega) (by omega) t u hl
  · rw [if_neg h]
    exact rreach_out n m t u h
end Go.Proofs.YtjaahmgokiobjaaGreat
