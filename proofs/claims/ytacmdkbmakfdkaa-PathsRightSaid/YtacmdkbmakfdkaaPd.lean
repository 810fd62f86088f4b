/- the document's Of on parts: the walk -/
import Derived.Test.YtacmdkbmakfdkaaG08
namespace Go.Proofs.Ytacmdkbmakfdkaa
open Go.RowKit
set_option linter.unusedVariables false
set_option linter.unusedSimpArgs false
attribute [local go_sem ↓] loadH loadT storeH storeT
attribute [local simp] size_setRow
attribute [local go_sem] rowAt_head rowOf_alloc_at rowOf_alloc_past rowOf_drew rowOf_drewN rowOf_setRow_same rowOf_setRow_other rowOf_setCell_same rowOf_setCell_other size_setRow setRow_drew setRow_alloc_at setRow_alloc_past one_int one_bool cell_setRow_same cell_setRow_other frozen_setRow_same frozen_setRow_other

def stepO (h : HV) (p : PV) : HV :=
  if 0 ≤ p.o then
    (if h.k = 0 then { h with a0 := p.x, k := 1 } else if h.k = 1 then { h with a1 := p.x, k := 2 } else if h.k = 2 then { h with a2 := p.x, k := 3 } else { h with a3 := p.x, k := 4 })
  else
    (if h.t = 0 then { h with b0 := p.x, t := 1 } else if h.t = 1 then { h with b1 := p.x, t := 2 } else if h.t = 2 then { h with b2 := p.x, t := 3 } else { h with b3 := p.x, t := 4 })
def ofL (f : Int) (L : List PV) : HV := L.foldl stepO ⟨f, 0, 0, 0, 0, 0, 0, 0, 0, 0, 0⟩

set_option maxRecDepth 100000 in
set_option maxHeartbeats 8000000 in
theorem rof_any (fr : Int) (L : List PV) (v : Value) (w : World) (hl : L.length ≤ 4) (h0 : L ≠ []) (h : RP.Is w v L) :
    Calls Try.prog 46 #[.int .i64 fr, v] w (Ret (.tuple #[(HV.gate (ofL fr L).rightB (ofL fr L)).val, .bool (ofL fr L).rightB]) w) := by
  rcases h with ⟨e, _⟩ | ⟨_, g, off, cap, rfl, hg, hr⟩
  · exact absurd e h0
  have hrow : Hid (∀ (W : World), Below w.heap.size w W → ∀ j, j < L.length → _) := fun W hW j hj => atP (hr.below hW hg) j hj
  have hstep : Hid (∀ (H : HV) (j : Nat), j < L.length → (L.drop j).foldl stepO H = (L.drop (j + 1)).foldl stepO (stepO H L[j]!)) := fun H j hj => by rw [drop_consP hj]; rfl
  have hend : ∀ (H : HV), (L.drop L.length).foldl stepO H = H := fun H => by rw [List.drop_length]; rfl
  have HEnd := Lib.hid hend
  have hst : (L.drop 0).foldl stepO ⟨fr, 0, 0, 0, 0, 0, 0, 0, 0, 0, 0⟩ = ofL fr L := rfl
  have HSt := Lib.hid hst
  have HG := Lib.hid hg
  clear hr h0 hend hst
  have hPR := fun W => parts_any (ofL fr L) W
  unfold PartsR at hPR
  generalize ofL fr L = R at *
  have hgate : R.rightB = true → HV.gate R.rightB R = R := fun e => by rw [e]; rfl
  have hgate0 : R.rightB = false → HV.gate R.rightB R = HV.zero := fun e => by rw [e]; rfl
  generalize HV.gate R.rightB R = G at *
  have HG1 := Lib.hid hgate; have HG0 := Lib.hid hgate0; have HPR := Lib.hid hPR
  clear hgate hgate0 hPR
  generalize (if R.rightB = true then partsP R else []) = X at *
  generalize R.rightB = rb at *
  generalize hn : L.length = n at *
  have HN := Lib.hid hn
  clear hn
  have N_r0 : rowOf ((w.alloc (.cells #[.int .i64 0, .int .i64 0, .int .i64 0, .int .i64 0, .int .i64 0, .int .i64 0, .int .i64 0, .int .i64 0, .int .i64 0, .int .i64 0, .int .i64 0] 46)).alloc (.cells #[.int .i64 fr, .int .i64 0, .int .i64 0, .int .i64 0, .int .i64 0, .int .i64 0, .int .i64 0, .int .i64 0, .int .i64 0, .int .i64 0, .int .i64 0] 46)) w.heap.size = some #[.int .i64 0, .int .i64 0, .int .i64 0, .int .i64 0, .int .i64 0, .int .i64 0, .int .i64 0, .int .i64 0, .int .i64 0, .int .i64 0, .int .i64 0] := by rw [rowOf_alloc_past _ _ (by simp)]; exact rowOf_alloc_at _ _ _ rfl
  have N_h0 : rowOf ((w.alloc (.cells #[.int .i64 0, .int .i64 0, .int .i64 0, .int .i64 0, .int .i64 0, .int .i64 0, .int .i64 0, .int .i64 0, .int .i64 0, .int .i64 0, .int .i64 0] 46)).alloc (.cells #[.int .i64 fr, .int .i64 0, .int .i64 0, .int .i64 0, .int .i64 0, .int .i64 0, .int .i64 0, .int .i64 0, .int .i64 0, .int .i64 0, .int .i64 0] 46)) (w.heap.size + 1) = some #[.int .i64 fr, .int .i64 0, .int .i64 0, .int .i64 0, .int .i64 0, .int .i64 0, .int .i64 0, .int .i64 0, .int .i64 0, .int .i64 0, .int .i64 0] := rowOf_alloc_at _ _ _ (by simp)
  have hb0 := ((Below.refl w.heap.size w).alloc (Nat.le_refl _) (.cells #[.int .i64 0, .int .i64 0, .int .i64 0, .int .i64 0, .int .i64 0, .int .i64 0, .int .i64 0, .int .i64 0, .int .i64 0, .int .i64 0, .int .i64 0] 46)).alloc (by simp) (.cells #[.int .i64 fr, .int .i64 0, .int .i64 0, .int .i64 0, .int .i64 0, .int .i64 0, .int .i64 0, .int .i64 0, .int .i64 0, .int .i64 0, .int .i64 0] 46)
  have HR0 := Lib.hid N_r0; have HH0 := Lib.hid N_h0; have HB0 := Lib.hid hb0
  clear N_r0 N_h0 hb0
  go_enter Try.func46, Try.ntmps46
  generalize hQ : bodyPost _ _ _ = Q0
  have HQ := Lib.hid hQ
  clear hQ
  go_wp2_with fail
  go_loopg [7] n (fun gg i wr => ∃ (j : Nat) (H : HV), j ≤ n ∧ n - j ≤ gg ∧ i = .int .i64 (j : Int) ∧ Hid (Below w.heap.size w wr) ∧ Hid (rowOf wr w.heap.size = some #[.int .i64 0, .int .i64 0, .int .i64 0, .int .i64 0, .int .i64 0, .int .i64 0, .int .i64 0, .int .i64 0, .int .i64 0, .int .i64 0, .int .i64 0]) ∧ Hid (rowOf wr (w.heap.size + 1) = some #[.int .i64 H.f, .int .i64 H.k, .int .i64 H.t, .int .i64 H.a0, .int .i64 H.a1, .int .i64 H.a2, .int .i64 H.a3, .int .i64 H.b0, .int .i64 H.b1, .int .i64 H.b2, .int .i64 H.b3]) ∧ 0 ≤ H.k ∧ 0 ≤ H.t ∧ H.k + H.t = j ∧ Hid ((L.drop j).foldl stepO H = R))
  case atStart => exact ⟨0, ⟨fr, 0, 0, 0, 0, 0, 0, 0, 0, 0, 0⟩, Nat.zero_le _, by omega, rfl, HB0.out, HR0.out, HH0.out, by simp, by simp, by simp, HSt.out⟩
  case round =>
    obtain ⟨j, H, hjn, hgg, rfl, HB, HR, HH, hk0, ht0, hkt, HC⟩ := hrel
    obtain ⟨f, k, t, a0, a1, a2, a3, b0, b1, b2, b3⟩ := H
    simp only at hk0 ht0 hkt
    have N_r := HR.out
    have N_h : rowOf wr (w.heap.size + 1) = some #[.int .i64 f, .int .i64 k, .int .i64 t, .int .i64 a0, .int .i64 a1, .int .i64 a2, .int .i64 a3, .int .i64 b0, .int .i64 b1, .int .i64 b2, .int .i64 b3] := HH.out
    have hlr := rowOf_lt N_r
    have hlh := rowOf_lt N_h
    by_cases hlt : j < n
    · have hlz : (j : Int) < (n : Int) := by omega
      obtain ⟨c0, c1⟩ := hrow.out wr HB.out j hlt
      have hq := HC.out
      rw [hstep.out _ j hlt] at hq
      generalize L[j]! = p at c0 c1 hq
      obtain ⟨po, px⟩ := p
      simp only at c0 c1
      have hgh : g ≠ w.heap.size + 1 := by have := HG.out; omega
      have hhg : w.heap.size + 1 ≠ g := hgh.symm
      have hgr : g ≠ w.heap.size := by have := HG.out; omega
      clear hrow hstep HR HH HC
      by_cases ho : 0 ≤ po
      · have hoi : po ≥ 0 := ho
        rcases (by omega : k = 0 ∨ k = 1 ∨ k = 2 ∨ k = 3) with hk | hk | hk | hk
        · obtain rfl : k = 0 := by omega
          have hs : stepO ⟨f, 0, t, a0, a1, a2, a3, b0, b1, b2, b3⟩ ⟨po, px⟩ = ⟨f, 1, t, px, a1, a2, a3, b0, b1, b2, b3⟩ := by simp [stepO, ho]
          rw [hs] at hq
          have HC2 := Lib.hid hq
          clear hq hs
          have x_i : wr.cell? ⟨w.heap.size + 1, 1, none⟩ = some (.int .i64 0) := rowOf_cell N_h 1
          have x_v : wr.cell? ⟨w.heap.size + 1, 3, none⟩ = some (.int .i64 a0) := rowOf_cell N_h 3
          have f_i := rowOf_frozen N_h 1
          have f_v := rowOf_frozen N_h 3
          have N_n : rowOf ((wr.setCell ⟨w.heap.size + 1, 3, none⟩ (.int .i64 px)).setCell ⟨w.heap.size + 1, 1, none⟩ (.int .i64 1)) (w.heap.size + 1) = some #[.int .i64 f, .int .i64 1, .int .i64 t, .int .i64 px, .int .i64 a1, .int .i64 a2, .int .i64 a3, .int .i64 b0, .int .i64 b1, .int .i64 b2, .int .i64 b3] := by
            rw [rowOf_setCell_same, rowOf_setCell_same, N_h]; rfl
          have N_m : rowOf ((wr.setCell ⟨w.heap.size + 1, 3, none⟩ (.int .i64 px)).setCell ⟨w.heap.size + 1, 1, none⟩ (.int .i64 1)) w.heap.size = some #[.int .i64 0, .int .i64 0, .int .i64 0, .int .i64 0, .int .i64 0, .int .i64 0, .int .i64 0, .int .i64 0, .int .i64 0, .int .i64 0, .int .i64 0] := by
            rw [rowOf_setCell_other _ _ _ (by simp), rowOf_setCell_other _ _ _ (by simp)]; exact N_r
          have B_n : Below w.heap.size w ((wr.setCell ⟨w.heap.size + 1, 3, none⟩ (.int .i64 px)).setCell ⟨w.heap.size + 1, 1, none⟩ (.int .i64 1)) := ((HB.out).setCell (by simp) _).setCell (by simp) _
          have HNn := Lib.hid N_n; have HNm := Lib.hid N_m; have HBn := Lib.hid B_n
          clear N_n N_m B_n N_h N_r
          go_wp2_with fail
          go_region
          all_goals
            go_wp2_with fail
            go_roundg (n - (j + 1))
            case measure => omega
            case rel => exact ⟨j + 1, ⟨f, 1, t, px, a1, a2, a3, b0, b1, b2, b3⟩, by omega, by omega, by go_num, HBn.out.drew, HNm.out, HNn.out, by simp only; omega, by simp only; omega, by simp only; omega, HC2.out⟩
        · obtain rfl : k = 1 := by omega
          have hs : stepO ⟨f, 1, t, a0, a1, a2, a3, b0, b1, b2, b3⟩ ⟨po, px⟩ = ⟨f, 2, t, a0, px, a2, a3, b0, b1, b2, b3⟩ := by simp [stepO, ho]
          rw [hs] at hq
          have HC2 := Lib.hid hq
          clear hq hs
          have x_i : wr.cell? ⟨w.heap.size + 1, 1, none⟩ = some (.int .i64 1) := rowOf_cell N_h 1
          have x_v : wr.cell? ⟨w.heap.size + 1, 4, none⟩ = some (.int .i64 a1) := rowOf_cell N_h 4
          have f_i := rowOf_frozen N_h 1
          have f_v := rowOf_frozen N_h 4
          have N_n : rowOf ((wr.setCell ⟨w.heap.size + 1, 4, none⟩ (.int .i64 px)).setCell ⟨w.heap.size + 1, 1, none⟩ (.int .i64 2)) (w.heap.size + 1) = some #[.int .i64 f, .int .i64 2, .int .i64 t, .int .i64 a0, .int .i64 px, .int .i64 a2, .int .i64 a3, .int .i64 b0, .int .i64 b1, .int .i64 b2, .int .i64 b3] := by
            rw [rowOf_setCell_same, rowOf_setCell_same, N_h]; rfl
          have N_m : rowOf ((wr.setCell ⟨w.heap.size + 1, 4, none⟩ (.int .i64 px)).setCell ⟨w.heap.size + 1, 1, none⟩ (.int .i64 2)) w.heap.size = some #[.int .i64 0, .int .i64 0, .int .i64 0, .int .i64 0, .int .i64 0, .int .i64 0, .int .i64 0, .int .i64 0, .int .i64 0, .int .i64 0, .int .i64 0] := by
            rw [rowOf_setCell_other _ _ _ (by simp), rowOf_setCell_other _ _ _ (by simp)]; exact N_r
          have B_n : Below w.heap.size w ((wr.setCell ⟨w.heap.size + 1, 4, none⟩ (.int .i64 px)).setCell ⟨w.heap.size + 1, 1, none⟩ (.int .i64 2)) := ((HB.out).setCell (by simp) _).setCell (by simp) _
          have HNn := Lib.hid N_n; have HNm := Lib.hid N_m; have HBn := Lib.hid B_n
          clear N_n N_m B_n N_h N_r
          go_wp2_with fail
          go_region
          all_goals
            go_wp2_with fail
            go_roundg (n - (j + 1))
            case measure => omega
            case rel => exact ⟨j + 1, ⟨f, 2, t, a0, px, a2, a3, b0, b1, b2, b3⟩, by omega, by omega, by go_num, HBn.out.drew, HNm.out, HNn.out, by simp only; omega, by simp only; omega, by simp only; omega, HC2.out⟩
        · obtain rfl : k = 2 := by omega
          have hs : stepO ⟨f, 2, t, a0, a1, a2, a3, b0, b1, b2, b3⟩ ⟨po, px⟩ = ⟨f, 3, t, a0, a1, px, a3, b0, b1, b2, b3⟩ := by simp [stepO, ho]
          rw [hs] at hq
          have HC2 := Lib.hid hq
          clear hq hs
          have x_i : wr.cell? ⟨w.heap.size + 1, 1, none⟩ = some (.int .i64 2) := rowOf_cell N_h 1
          have x_v : wr.cell? ⟨w.heap.size + 1, 5, none⟩ = some (.int .i64 a2) := rowOf_cell N_h 5
          have f_i := rowOf_frozen N_h 1
          have f_v := rowOf_frozen N_h 5
          have N_n : rowOf ((wr.setCell ⟨w.heap.size + 1, 5, none⟩ (.int .i64 px)).setCell ⟨w.heap.size + 1, 1, none⟩ (.int .i64 3)) (w.heap.size + 1) = some #[.int .i64 f, .int .i64 3, .int .i64 t, .int .i64 a0, .int .i64 a1, .int .i64 px, .int .i64 a3, .int .i64 b0, .int .i64 b1, .int .i64 b2, .int .i64 b3] := by
            rw [rowOf_setCell_same, rowOf_setCell_same, N_h]; rfl
          have N_m : rowOf ((wr.setCell ⟨w.heap.size + 1, 5, none⟩ (.int .i64 px)).setCell ⟨w.heap.size + 1, 1, none⟩ (.int .i64 3)) w.heap.size = some #[.int .i64 0, .int .i64 0, .int .i64 0, .int .i64 0, .int .i64 0, .int .i64 0, .int .i64 0, .int .i64 0, .int .i64 0, .int .i64 0, .int .i64 0] := by
            rw [rowOf_setCell_other _ _ _ (by simp), rowOf_setCell_other _ _ _ (by simp)]; exact N_r
          have B_n : Below w.heap.size w ((wr.setCell ⟨w.heap.size + 1, 5, none⟩ (.int .i64 px)).setCell ⟨w.heap.size + 1, 1, none⟩ (.int .i64 3)) := ((HB.out).setCell (by simp) _).setCell (by simp) _
          have HNn := Lib.hid N_n; have HNm := Lib.hid N_m; have HBn := Lib.hid B_n
          clear N_n N_m B_n N_h N_r
          go_wp2_with fail
          go_region
          all_goals
            go_wp2_with fail
            go_roundg (n - (j + 1))
            case measure => omega
            case rel => exact ⟨j + 1, ⟨f, 3, t, a0, a1, px, a3, b0, b1, b2, b3⟩, by omega, by omega, by go_num, HBn.out.drew, HNm.out, HNn.out, by simp only; omega, by simp only; omega, by simp only; omega, HC2.out⟩
        · obtain rfl : k = 3 := by omega
          have hs : stepO ⟨f, 3, t, a0, a1, a2, a3, b0, b1, b2, b3⟩ ⟨po, px⟩ = ⟨f, 4, t, a0, a1, a2, px, b0, b1, b2, b3⟩ := by simp [stepO, ho]
          rw [hs] at hq
          have HC2 := Lib.hid hq
          clear hq hs
          have x_i : wr.cell? ⟨w.heap.size + 1, 1, none⟩ = some (.int .i64 3) := rowOf_cell N_h 1
          have x_v : wr.cell? ⟨w.heap.size + 1, 6, none⟩ = some (.int .i64 a3) := rowOf_cell N_h 6
          have f_i := rowOf_frozen N_h 1
          have f_v := rowOf_frozen N_h 6
          have N_n : rowOf ((wr.setCell ⟨w.heap.size + 1, 6, none⟩ (.int .i64 px)).setCell ⟨w.heap.size + 1, 1, none⟩ (.int .i64 4)) (w.heap.size + 1) = some #[.int .i64 f, .int .i64 4, .int .i64 t, .int .i64 a0, .int .i64 a1, .int .i64 a2, .int .i64 px, .int .i64 b0, .int .i64 b1, .int .i64 b2, .int .i64 b3] := by
            rw [rowOf_setCell_same, rowOf_setCell_same, N_h]; rfl
          have N_m : rowOf ((wr.setCell ⟨w.heap.size + 1, 6, none⟩ (.int .i64 px)).setCell ⟨w.heap.size + 1, 1, none⟩ (.int .i64 4)) w.heap.size = some #[.int .i64 0, .int .i64 0, .int .i64 0, .int .i64 0, .int .i64 0, .int .i64 0, .int .i64 0, .int .i64 0, .int .i64 0, .int .i64 0, .int .i64 0] := by
            rw [rowOf_setCell_other _ _ _ (by simp), rowOf_setCell_other _ _ _ (by simp)]; exact N_r
          have B_n : Below w.heap.size w ((wr.setCell ⟨w.heap.size + 1, 6, none⟩ (.int .i64 px)).setCell ⟨w.heap.size + 1, 1, none⟩ (.int .i64 4)) := ((HB.out).setCell (by simp) _).setCell (by simp) _
          have HNn := Lib.hid N_n; have HNm := Lib.hid N_m; have HBn := Lib.hid B_n
          clear N_n N_m B_n N_h N_r
          go_wp2_with fail
          go_region
          all_goals
            go_wp2_with fail
            go_roundg (n - (j + 1))
            case measure => omega
            case rel => exact ⟨j + 1, ⟨f, 4, t, a0, a1, a2, px, b0, b1, b2, b3⟩, by omega, by omega, by go_num, HBn.out.drew, HNm.out, HNn.out, by simp only; omega, by simp only; omega, by simp only; omega, HC2.out⟩
      · have hoi : ¬ po ≥ 0 := ho
        rcases (by omega : t = 0 ∨ t = 1 ∨ t = 2 ∨ t = 3) with hk | hk | hk | hk
        · obtain rfl : t = 0 := by omega
          have hs : stepO ⟨f, k, 0, a0, a1, a2, a3, b0, b1, b2, b3⟩ ⟨po, px⟩ = ⟨f, k, 1, a0, a1, a2, a3, px, b1, b2, b3⟩ := by simp [stepO, ho]
          rw [hs] at hq
          have HC2 := Lib.hid hq
          clear hq hs
          have x_i : wr.cell? ⟨w.heap.size + 1, 2, none⟩ = some (.int .i64 0) := rowOf_cell N_h 2
          have x_v : wr.cell? ⟨w.heap.size + 1, 7, none⟩ = some (.int .i64 b0) := rowOf_cell N_h 7
          have f_i := rowOf_frozen N_h 2
          have f_v := rowOf_frozen N_h 7
          have N_n : rowOf ((wr.setCell ⟨w.heap.size + 1, 7, none⟩ (.int .i64 px)).setCell ⟨w.heap.size + 1, 2, none⟩ (.int .i64 1)) (w.heap.size + 1) = some #[.int .i64 f, .int .i64 k, .int .i64 1, .int .i64 a0, .int .i64 a1, .int .i64 a2, .int .i64 a3, .int .i64 px, .int .i64 b1, .int .i64 b2, .int .i64 b3] := by
            rw [rowOf_setCell_same, rowOf_setCell_same, N_h]; rfl
          have N_m : rowOf ((wr.setCell ⟨w.heap.size + 1, 7, none⟩ (.int .i64 px)).setCell ⟨w.heap.size + 1, 2, none⟩ (.int .i64 1)) w.heap.size = some #[.int .i64 0, .int .i64 0, .int .i64 0, .int .i64 0, .int .i64 0, .int .i64 0, .int .i64 0, .int .i64 0, .int .i64 0, .int .i64 0, .int .i64 0] := by
            rw [rowOf_setCell_other _ _ _ (by simp), rowOf_setCell_other _ _ _ (by simp)]; exact N_r
          have B_n : Below w.heap.size w ((wr.setCell ⟨w.heap.size + 1, 7, none⟩ (.int .i64 px)).setCell ⟨w.heap.size + 1, 2, none⟩ (.int .i64 1)) := ((HB.out).setCell (by simp) _).setCell (by simp) _
          have HNn := Lib.hid N_n; have HNm := Lib.hid N_m; have HBn := Lib.hid B_n
          clear N_n N_m B_n N_h N_r
          go_wp2_with fail
          go_region
          all_goals
            go_wp2_with fail
            go_roundg (n - (j + 1))
            case measure => omega
            case rel => exact ⟨j + 1, ⟨f, k, 1, a0, a1, a2, a3, px, b1, b2, b3⟩, by omega, by omega, by go_num, HBn.out.drew, HNm.out, HNn.out, by simp only; omega, by simp only; omega, by simp only; omega, HC2.out⟩
        · obtain rfl : t = 1 := by omega
          have hs : stepO ⟨f, k, 1, a0, a1, a2, a3, b0, b1, b2, b3⟩ ⟨po, px⟩ = ⟨f, k, 2, a0, a1, a2, a3, b0, px, b2, b3⟩ := by simp [stepO, ho]
          rw [hs] at hq
          have HC2 := Lib.hid hq
          clear hq hs
          have x_i : wr.cell? ⟨w.heap.size + 1, 2, none⟩ = some (.int .i64 1) := rowOf_cell N_h 2
          have x_v : wr.cell? ⟨w.heap.size + 1, 8, none⟩ = some (.int .i64 b1) := rowOf_cell N_h 8
          have f_i := rowOf_frozen N_h 2
          have f_v := rowOf_frozen N_h 8
          have N_n : rowOf ((wr.setCell ⟨w.heap.size + 1, 8, none⟩ (.int .i64 px)).setCell ⟨w.heap.size + 1, 2, none⟩ (.int .i64 2)) (w.heap.size + 1) = some #[.int .i64 f, .int .i64 k, .int .i64 2, .int .i64 a0, .int .i64 a1, .int .i64 a2, .int .i64 a3, .int .i64 b0, .int .i64 px, .int .i64 b2, .int .i64 b3] := by
            rw [rowOf_setCell_same, rowOf_setCell_same, N_h]; rfl
          have N_m : rowOf ((wr.setCell ⟨w.heap.size + 1, 8, none⟩ (.int .i64 px)).setCell ⟨w.heap.size + 1, 2, none⟩ (.int .i64 2)) w.heap.size = some #[.int .i64 0, .int .i64 0, .int .i64 0, .int .i64 0, .int .i64 0, .int .i64 0, .int .i64 0, .int .i64 0, .int .i64 0, .int .i64 0, .int .i64 0] := by
            rw [rowOf_setCell_other _ _ _ (by simp), rowOf_setCell_other _ _ _ (by simp)]; exact N_r
          have B_n : Below w.heap.size w ((wr.setCell ⟨w.heap.size + 1, 8, none⟩ (.int .i64 px)).setCell ⟨w.heap.size + 1, 2, none⟩ (.int .i64 2)) := ((HB.out).setCell (by simp) _).setCell (by simp) _
          have HNn := Lib.hid N_n; have HNm := Lib.hid N_m; have HBn := Lib.hid B_n
          clear N_n N_m B_n N_h N_r
          go_wp2_with fail
          go_region
          all_goals
            go_wp2_with fail
            go_roundg (n - (j + 1))
            case measure => omega
            case rel => exact ⟨j + 1, ⟨f, k, 2, a0, a1, a2, a3, b0, px, b2, b3⟩, by omega, by omega, by go_num, HBn.out.drew, HNm.out, HNn.out, by simp only; omega, by simp only; omega, by simp only; omega, HC2.out⟩
        · obtain rfl : t = 2 := by omega
          have hs : stepO ⟨f, k, 2, a0, a1, a2, a3, b0, b1, b2, b3⟩ ⟨po, px⟩ = ⟨f, k, 3, a0, a1, a2, a3, b0, b1, px, b3⟩ := by simp [stepO, ho]
          rw [hs] at hq
          have HC2 := Lib.hid hq
          clear hq hs
          have x_i : wr.cell? ⟨w.heap.size + 1, 2, none⟩ = some (.int .i64 2) := rowOf_cell N_h 2
          have x_v : wr.cell? ⟨w.heap.size + 1, 9, none⟩ = some (.int .i64 b2) := rowOf_cell N_h 9
          have f_i := rowOf_frozen N_h 2
          have f_v := rowOf_frozen N_h 9
          have N_n : rowOf ((wr.setCell ⟨w.heap.size + 1, 9, none⟩ (.int .i64 px)).setCell ⟨w.heap.size + 1, 2, none⟩ (.int .i64 3)) (w.heap.size + 1) = some #[.int .i64 f, .int .i64 k, .int .i64 3, .int .i64 a0, .int .i64 a1, .int .i64 a2, .int .i64 a3, .int .i64 b0, .int .i64 b1, .int .i64 px, .int .i64 b3] := by
            rw [rowOf_setCell_same, rowOf_setCell_same, N_h]; rfl
          have N_m : rowOf ((wr.setCell ⟨w.heap.size + 1, 9, none⟩ (.int .i64 px)).setCell ⟨w.heap.size + 1, 2, none⟩ (.int .i64 3)) w.heap.size = some #[.int .i64 0, .int .i64 0, .int .i64 0, .int .i64 0, .int .i64 0, .int .i64 0, .int .i64 0, .int .i64 0, .int .i64 0, .int .i64 0, .int .i64 0] := by
            rw [rowOf_setCell_other _ _ _ (by simp), rowOf_setCell_other _ _ _ (by simp)]; exact N_r
          have B_n : Below w.heap.size w ((wr.setCell ⟨w.heap.size + 1, 9, none⟩ (.int .i64 px)).setCell ⟨w.heap.size + 1, 2, none⟩ (.int .i64 3)) := ((HB.out).setCell (by simp) _).setCell (by simp) _
          have HNn := Lib.hid N_n; have HNm := Lib.hid N_m; have HBn := Lib.hid B_n
          clear N_n N_m B_n N_h N_r
          go_wp2_with fail
          go_region
          all_goals
            go_wp2_with fail
            go_roundg (n - (j + 1))
            case measure => omega
            case rel => exact ⟨j + 1, ⟨f, k, 3, a0, a1, a2, a3, b0, b1, px, b3⟩, by omega, by omega, by go_num, HBn.out.drew, HNm.out, HNn.out, by simp only; omega, by simp only; omega, by simp only; omega, HC2.out⟩
        · obtain rfl : t = 3 := by omega
          have hs : stepO ⟨f, k, 3, a0, a1, a2, a3, b0, b1, b2, b3⟩ ⟨po, px⟩ = ⟨f, k, 4, a0, a1, a2, a3, b0, b1, b2, px⟩ := by simp [stepO, ho]
          rw [hs] at hq
          have HC2 := Lib.hid hq
          clear hq hs
          have x_i : wr.cell? ⟨w.heap.size + 1, 2, none⟩ = some (.int .i64 3) := rowOf_cell N_h 2
          have x_v : wr.cell? ⟨w.heap.size + 1, 10, none⟩ = some (.int .i64 b3) := rowOf_cell N_h 10
          have f_i := rowOf_frozen N_h 2
          have f_v := rowOf_frozen N_h 10
          have N_n : rowOf ((wr.setCell ⟨w.heap.size + 1, 10, none⟩ (.int .i64 px)).setCell ⟨w.heap.size + 1, 2, none⟩ (.int .i64 4)) (w.heap.size + 1) = some #[.int .i64 f, .int .i64 k, .int .i64 4, .int .i64 a0, .int .i64 a1, .int .i64 a2, .int .i64 a3, .int .i64 b0, .int .i64 b1, .int .i64 b2, .int .i64 px] := by
            rw [rowOf_setCell_same, rowOf_setCell_same, N_h]; rfl
          have N_m : rowOf ((wr.setCell ⟨w.heap.size + 1, 10, none⟩ (.int .i64 px)).setCell ⟨w.heap.size + 1, 2, none⟩ (.int .i64 4)) w.heap.size = some #[.int .i64 0, .int .i64 0, .int .i64 0, .int .i64 0, .int .i64 0, .int .i64 0, .int .i64 0, .int .i64 0, .int .i64 0, .int .i64 0, .int .i64 0] := by
            rw [rowOf_setCell_other _ _ _ (by simp), rowOf_setCell_other _ _ _ (by simp)]; exact N_r
          have B_n : Below w.heap.size w ((wr.setCell ⟨w.heap.size + 1, 10, none⟩ (.int .i64 px)).setCell ⟨w.heap.size + 1, 2, none⟩ (.int .i64 4)) := ((HB.out).setCell (by simp) _).setCell (by simp) _
          have HNn := Lib.hid N_n; have HNm := Lib.hid N_m; have HBn := Lib.hid B_n
          clear N_n N_m B_n N_h N_r
          go_wp2_with fail
          go_region
          all_goals
            go_wp2_with fail
            go_roundg (n - (j + 1))
            case measure => omega
            case rel => exact ⟨j + 1, ⟨f, k, 4, a0, a1, a2, a3, b0, b1, b2, px⟩, by omega, by omega, by go_num, HBn.out.drew, HNm.out, HNn.out, by simp only; omega, by simp only; omega, by simp only; omega, HC2.out⟩
    · have hlz : ¬ (j : Int) < (n : Int) := by omega
      obtain rfl : j = n := by omega
      have hq := HC.out
      rw [HEnd.out] at hq
      subst hq
      clear hrow hstep HC HR HH
      have HPR2 : Hid (∀ W, Calls Try.prog 45 #[.agg #[.int .i64 f, .int .i64 k, .int .i64 t, .int .i64 a0, .int .i64 a1, .int .i64 a2, .int .i64 a3, .int .i64 b0, .int .i64 b1, .int .i64 b2, .int .i64 b3]] W (fun e w' => ∃ v, e = .returned (.tuple #[v, .bool rb]) ∧ RP.Own W.heap.size w' v X ∧ Below W.heap.size W w')) := fun W => HPR.out W
      go_wp2_with fail
      refine (HPR2.out _).mono ?_
      rintro e w1 ⟨v1, rfl, _, hb1⟩
      replace N_r := rowOf_below N_r hb1 hlr
      replace N_h := rowOf_below N_h hb1 hlh
      have HB1 := Lib.hid (HB.out.trans (hb1.mono HB.out.size))
      clear hb1 HPR HPR2
      cases rb
      · obtain rfl := HG0.out rfl
        have N_s : rowOf (setRow w1 w.heap.size #[.int .i64 0, .int .i64 0, .int .i64 0, .int .i64 0, .int .i64 0, .int .i64 0, .int .i64 0, .int .i64 0, .int .i64 0, .int .i64 0, .int .i64 0]) w.heap.size = some #[.int .i64 0, .int .i64 0, .int .i64 0, .int .i64 0, .int .i64 0, .int .i64 0, .int .i64 0, .int .i64 0, .int .i64 0, .int .i64 0, .int .i64 0] := rowOf_setRow_same _ _ (by rw [N_r]; rfl)
        go_wp2_with fail
        rw [← HQ.out]
        exact bodyPost_ret (v := .tuple #[.agg #[.int .i64 0, .int .i64 0, .int .i64 0, .int .i64 0, .int .i64 0, .int .i64 0, .int .i64 0, .int .i64 0, .int .i64 0, .int .i64 0, .int .i64 0], .bool false]) (by simp [results, Try.results46, go_sem, N_r, N_s]) rfl ⟨rfl, below_setRow HB1.out _ _ (Nat.le_refl _)⟩
      · obtain rfl := HG1.out rfl
        have N_s : rowOf (setRow w1 w.heap.size #[.int .i64 f, .int .i64 k, .int .i64 t, .int .i64 a0, .int .i64 a1, .int .i64 a2, .int .i64 a3, .int .i64 b0, .int .i64 b1, .int .i64 b2, .int .i64 b3]) w.heap.size = some #[.int .i64 f, .int .i64 k, .int .i64 t, .int .i64 a0, .int .i64 a1, .int .i64 a2, .int .i64 a3, .int .i64 b0, .int .i64 b1, .int .i64 b2, .int .i64 b3] := rowOf_setRow_same _ _ (by rw [N_r]; rfl)
        go_wp2_with fail
        rw [← HQ.out]
        exact bodyPost_ret (v := .tuple #[.agg #[.int .i64 f, .int .i64 k, .int .i64 t, .int .i64 a0, .int .i64 a1, .int .i64 a2, .int .i64 a3, .int .i64 b0, .int .i64 b1, .int .i64 b2, .int .i64 b3], .bool true]) (by simp [results, Try.results46, go_sem, N_r, N_s]) rfl ⟨rfl, below_setRow HB1.out _ _ (Nat.le_refl _)⟩
end Go.Proofs.Ytacmdkbmakfdkaa
