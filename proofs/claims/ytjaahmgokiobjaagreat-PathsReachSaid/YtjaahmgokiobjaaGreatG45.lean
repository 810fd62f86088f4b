/- the document's Apply on steps: the walk -/
import Derived.Test.YtjaahmgokiobjaaGreatG44
import Derived.Test.YtjaahmgokiobjaaGreatG17
import Derived.Deep.LoopGhost
import Derived.Deep.Draws
import Derived.Deep.Light
import Derived.Laws.StructEq
import Derived.BigQuiet
namespace Go.Proofs.YtjaahmgokiobjaaGreat
open Go.RowKit
set_option linter.unusedVariables false
set_option linter.unusedSimpArgs false
attribute [local go_sem ↓] loadH loadT storeH storeT
attribute [local simp] size_setRow
attribute [local go_sem] rowAt_head rowOf_alloc_at rowOf_alloc_past rowOf_drew rowOf_drewN rowOf_setRow_same rowOf_setRow_other rowOf_setCell_same rowOf_setCell_other size_setRow setRow_drew setRow_alloc_at setRow_alloc_past one_int one_bool cell_setRow_same cell_setRow_other frozen_setRow_same frozen_setRow_other

set_option maxRecDepth 100000 in
set_option maxHeartbeats 8000000 in
theorem rapply_any (h : HV) (t : TV) (w : World) : Calls Tryz.prog 21 #[h.val, t.val] w (Ret (.tuple #[(applyT h t).val, .bool (applyOk h t)]) w) := by
  have hPA := fun W => parts_any h W
  unfold PartsR at hPA
  have hLT := fun W => list_any t.d t.c0 t.c1 t.c2 t.c3 W
  unfold ListPost at hLT
  rw [show rightB t.d t.c0 t.c1 t.c2 t.c3 = t.rightB from rfl] at hLT
  have hno : (h.rightB && t.rightB && (t.d == h.f)) = false → applyOk h t = false ∧ applyT h t = ⟨0, 0, 0, 0, 0⟩ := apply_plain_no
  have hyes : h.rightB = true → t.rightB = true → t.d = h.f → ofV (outA (partsP h) (coords t.d t.c0 t.c1 t.c2 t.c3)) = .tuple #[(applyT h t).val, .bool (applyOk h t)] := apply_plain
  have hX : h.rightB = true → (if h.rightB = true then partsP h else []) = partsP h := fun e => if_pos e
  have hp : h.rightB = true → partsP h ≠ [] ∧ (partsP h).length ≤ 4 ∧ h.k ≤ h.f ∧ (∀ p ∈ partsP h, (0 ≤ p.x ∧ p.x ≤ 1048576) ∧ p.o < h.k ∨ (0 ≤ p.x ∧ p.x ≤ 1048576) ∧ p.o = -1) := fun e => by
    have := partsP_num e
    have q : h.right := of_decide_eq_true e
    refine ⟨fun n => by rw [n] at this; simp at this, this.2.2, q.1.2.2.2.1, fun p hp => ?_⟩
    rcases parts_ok e p hp with k | k
    · exact .inl ⟨k.1, k.2.2⟩
    · exact .inr k
  have hc : t.rightB = true → ((coords t.d t.c0 t.c1 t.c2 t.c3).length : Int) = t.d ∧ 1 ≤ t.d ∧ (∀ c ∈ coords t.d t.c0 t.c1 t.c2 t.c3, 0 ≤ c ∧ c ≤ 1048576) := fun e => by
    have q := right_of' e
    exact ⟨coords_lenP _ _ _ _ _ q.1 q.2.1, q.1, coords_ok e⟩
  generalize applyT h t = R at *
  generalize applyOk h t = ok at *
  generalize coords t.d t.c0 t.c1 t.c2 t.c3 = C at *
  generalize t.rightB = rt at *
  obtain ⟨d, c0, c1, c2, c3⟩ := t
  obtain ⟨R0, R1, R2, R3, R4⟩ := R
  generalize (if h.rightB = true then partsP h else []) = X at *
  generalize partsP h = P at *
  generalize h.rightB = rh at *
  obtain ⟨f, k, t, a0, a1, a2, a3, b0, b1, b2, b3⟩ := h
  simp only at hno hyes hp hc
  have HPA := Lib.hid hPA; have HNo := Lib.hid hno; have HYes := Lib.hid hyes; have HXP := Lib.hid hX; have HP := Lib.hid hp; have HC := Lib.hid hc
  have HLT : Hid (∀ W, Calls Tryz.prog 46 #[.agg #[.int .i64 d, .int .i64 c0, .int .i64 c1, .int .i64 c2, .int .i64 c3]] W (fun e w' => (rt = true ∧ ∃ v, e = .returned (.tuple #[v, .bool true]) ∧ OwnI (W.heap.size + 1) w' v C ∧ Below W.heap.size W w') ∨ (rt = false ∧ e = .returned (.tuple #[.slice none 0 0, .bool false]) ∧ Below W.heap.size W w'))) := hLT
  clear hPA hLT hno hyes hX hp hc
  have N_p0 : rowOf (((w.alloc (.cells #[.int .i64 f, .int .i64 k, .int .i64 t, .int .i64 a0, .int .i64 a1, .int .i64 a2, .int .i64 a3, .int .i64 b0, .int .i64 b1, .int .i64 b2, .int .i64 b3] 55)).alloc (.cells #[.int .i64 d, .int .i64 c0, .int .i64 c1, .int .i64 c2, .int .i64 c3] 29)).alloc (.cells #[.int .i64 0, .int .i64 0, .int .i64 0, .int .i64 0, .int .i64 0] 29)) w.heap.size = some #[.int .i64 f, .int .i64 k, .int .i64 t, .int .i64 a0, .int .i64 a1, .int .i64 a2, .int .i64 a3, .int .i64 b0, .int .i64 b1, .int .i64 b2, .int .i64 b3] := by rw [rowOf_alloc_past _ _ (by first | (simp; done) | (simp; omega)), rowOf_alloc_past _ _ (by simp)]; exact rowOf_alloc_at _ _ _ rfl
  have N_q0 : rowOf (((w.alloc (.cells #[.int .i64 f, .int .i64 k, .int .i64 t, .int .i64 a0, .int .i64 a1, .int .i64 a2, .int .i64 a3, .int .i64 b0, .int .i64 b1, .int .i64 b2, .int .i64 b3] 55)).alloc (.cells #[.int .i64 d, .int .i64 c0, .int .i64 c1, .int .i64 c2, .int .i64 c3] 29)).alloc (.cells #[.int .i64 0, .int .i64 0, .int .i64 0, .int .i64 0, .int .i64 0] 29)) (w.heap.size + 1) = some #[.int .i64 d, .int .i64 c0, .int .i64 c1, .int .i64 c2, .int .i64 c3] := by rw [rowOf_alloc_past _ _ (by simp)]; exact rowOf_alloc_at _ _ _ (by simp)
  have N_r0 : rowOf (((w.alloc (.cells #[.int .i64 f, .int .i64 k, .int .i64 t, .int .i64 a0, .int .i64 a1, .int .i64 a2, .int .i64 a3, .int .i64 b0, .int .i64 b1, .int .i64 b2, .int .i64 b3] 55)).alloc (.cells #[.int .i64 d, .int .i64 c0, .int .i64 c1, .int .i64 c2, .int .i64 c3] 29)).alloc (.cells #[.int .i64 0, .int .i64 0, .int .i64 0, .int .i64 0, .int .i64 0] 29)) (w.heap.size + 1 + 1) = some #[.int .i64 0, .int .i64 0, .int .i64 0, .int .i64 0, .int .i64 0] := rowOf_alloc_at _ _ _ (by simp)
  have hb0 := (((Below.refl w.heap.size w).alloc (Nat.le_refl _) (.cells #[.int .i64 f, .int .i64 k, .int .i64 t, .int .i64 a0, .int .i64 a1, .int .i64 a2, .int .i64 a3, .int .i64 b0, .int .i64 b1, .int .i64 b2, .int .i64 b3] 55)).alloc (by simp) (.cells #[.int .i64 d, .int .i64 c0, .int .i64 c1, .int .i64 c2, .int .i64 c3] 29)).alloc (by first | (simp; done) | (simp; omega)) (.cells #[.int .i64 0, .int .i64 0, .int .i64 0, .int .i64 0, .int .i64 0] 29)
  have HPp := Lib.hid N_p0; have HQq := Lib.hid N_q0; have HRr := Lib.hid N_r0; have HB0 := Lib.hid hb0
  clear N_p0 N_q0 N_r0 hb0
  go_enter Tryz.func21, Tryz.ntmps21
  generalize hQ : bodyPost _ _ _ = Q0
  have HQ := Lib.hid hQ
  clear hQ
  go_wp2_with fail
  refine (HPA.out _).mono ?_
  rintro e w1 ⟨v1, rfl, hO1, hb1⟩
  have N_p := rowOf_below HPp.out hb1 (by first | (simp; done) | (simp; omega))
  have N_q := rowOf_below HQq.out hb1 (by first | (simp; done) | (simp; omega))
  have N_r := rowOf_below HRr.out hb1 (by simp)
  have HB1 := Lib.hid (HB0.out.trans (hb1.mono HB0.out.size))
  have HO1 := Lib.hid hO1.is
  clear hb1 hO1 HPA HPp HQq HRr HB0
  go_wp2_with fail
  refine (HLT.out _).mono ?_
  rintro e w2 hl2
  have hlp := rowOf_lt N_p
  have hlr := rowOf_lt N_r
  rcases hl2 with ⟨hrt, v2, rfl, hO2, hb2⟩ | ⟨hrt, rfl, hb2⟩
  · replace N_p := rowOf_below N_p hb2 hlp
    replace N_r := rowOf_below N_r hb2 hlr
    have HB2 := Lib.hid (HB1.out.trans (hb2.mono HB1.out.size))
    have hlr' := Nat.lt_of_lt_of_le hlr hb2.size
    have HX := Lib.hid (HO1.out.below hb2)
    have HCi := Lib.hid (RN_own.2 hO2).is
    have p_0 : w2.cell? ⟨w.heap.size, 0, none⟩ = some (.int .i64 f) := rowOf_cell N_p 0
    clear hb2 hO2 HO1 HB1 HLT N_q
    obtain ⟨hcl, hd1, hcb⟩ := HC.out hrt
    obtain ⟨p1, cc1, rfl⟩ := HX.out.slice
    obtain ⟨p2, cc2, rfl⟩ := HCi.out.slice
    cases rh
    · obtain ⟨rfl, e⟩ := HNo.out rfl
      simp only [TV.mk.injEq] at e
      obtain ⟨rfl, rfl, rfl, rfl, rfl⟩ := e
      clear HNo HYes HXP HP HC
      have N_s : rowOf (setRow w2 (w.heap.size + 1 + 1) #[.int .i64 0, .int .i64 0, .int .i64 0, .int .i64 0, .int .i64 0]) (w.heap.size + 1 + 1) = some #[.int .i64 0, .int .i64 0, .int .i64 0, .int .i64 0, .int .i64 0] := rowOf_setRow_same _ _ (by rw [N_r]; rfl)
      go_wp2_with fail
      rw [← HQ.out]
      exact bodyPost_ret (v := .tuple #[.agg #[.int .i64 0, .int .i64 0, .int .i64 0, .int .i64 0, .int .i64 0], .bool false]) (by simp [results, Tryz.results21, go_sem, N_r, N_s]) rfl ⟨rfl, below_setRow HB2.out _ _ (by omega)⟩
    · by_cases hdf : d = f
      · have hXP := HXP.out rfl
        obtain ⟨hPn, hP4, hkf, hPb⟩ := HP.out rfl
        subst hXP
        have hyes := HYes.out rfl hrt hdf
        have hlb : ((C.length : Int) != f) = false := by rw [hcl]; simp [hdf]
        rcases HX.out with ⟨e, _⟩ | ⟨_, g1, o1, cx1, e1, hg1, hr1⟩
        · exact absurd e hPn
        rcases HCi.out with ⟨e, _⟩ | ⟨_, g2, o2, cx2, e2, hg2, hr2⟩
        · rw [e] at hcl; simp at hcl; omega
        simp only [Value.slice.injEq] at e1 e2
        obtain ⟨rfl, _, rfl⟩ := e1
        obtain ⟨rfl, _, rfl⟩ := e2
        have hrow : Hid (∀ (W : World), Below w2.heap.size w2 W → ∀ j, j < X.length → _) := fun W hW j hj => atP (hr1.below hW hg1) j hj
        have hrow2 : Hid (∀ (W : World), Below w2.heap.size w2 W → ∀ j, j < C.length → _) := fun W hW j hj => atN (hr2.below hW hg2) j hj
        have hstep := Lib.hid (outA_take X C)
        have hbd : Hid (∀ j, j < X.length → 0 ≤ X[j]!.x ∧ X[j]!.x ≤ 1048576 ∧ (0 ≤ X[j]!.o → X[j]!.o.toNat < C.length)) := fun j hj => by
          have := hPb X[j]! (by rw [getElem!_pos X j hj]; exact List.getElem_mem hj)
          omega
        have hcd : Hid (∀ j, j < C.length → 0 ≤ C[j]! ∧ C[j]! ≤ 1048576) := fun j hj => hcb C[j]! (by rw [getElem!_pos C j hj]; exact List.getElem_mem hj)
        have hfull : outA (X.take X.length) C = outA X C := by rw [List.take_length]
        have HFull := Lib.hid hfull; have HYe := Lib.hid hyes
        have hlen : ∀ k, (outA (X.take k) C).length ≤ 900000 := fun k => by unfold outA; rw [List.length_map, List.length_take]; omega
        have HLen := Lib.hid hlen
        clear hr1 hr2 HX HCi hfull hyes HNo HYes HXP HP HC hPb hcb hPn hlen
        generalize hn : X.length = n at *
        generalize hm : C.length = m at *
        have HN := Lib.hid hn; have HM := Lib.hid hm
        clear hn hm hcl hdf
        have HR := Lib.hid N_r
        clear N_r N_p
        go_wp2_with fail
        go_loopg [10, 11] n (fun gg u i wr => ∃ k : Nat, k ≤ n ∧ n - k ≤ gg ∧ i = .int .i64 k ∧ Hid (Below w2.heap.size w2 wr) ∧ Hid (RN.Own w2.heap.size wr u (outA (X.take k) C)))
        case atStart => exact ⟨0, Nat.zero_le _, by omega, rfl, (Below.refl _ _), RowKind.Own.nil RN _ _⟩
        case round =>
          obtain ⟨k, hkn, hgg, rfl, HB, HO⟩ := hrel
          by_cases hlt : k < n
          · have hlz : (k : Int) < (n : Int) := by omega
            obtain ⟨x0, x1⟩ := hrow.out wr HB.out k hlt
            obtain ⟨hx0, hx1, hxo⟩ := hbd.out k hlt
            have hq := hstep.out k hlt
            have hlk := HLen.out k
            generalize X[k]! = x at *
            obtain ⟨xo, xx⟩ := x
            simp only at x0 x1 hx0 hx1 hxo hq
            by_cases ho : 0 ≤ xo
            · obtain ⟨on, rfl⟩ := Int.eq_ofNat_of_zero_le ho
              have hom : on < m := by have := hxo ho; simpa using this
              have homi : (on : Int) < (m : Int) := by omega
              have hoi : (on : Int) ≥ 0 := ho
              have y0 := hrow2.out wr HB.out on hom
              obtain ⟨hy0, hy1⟩ := hcd.out on hom
              rw [if_pos ho, Int.toNat_natCast] at hq
              generalize C[on]! = y at *
              have HQ2 := Lib.hid hq
              clear hq hrow hrow2 hstep hbd hcd hxo
              go_wp2_with (at_builtin; refine RowKind.Own.push (R := RN) (y := xx + y) HO.out HB.out HB.out.size rfl _ _ rfl rfl _ rfl hlk (Nat.le_refl _) ?_; intro v5 w5 hO5 hB5 hz5)
              go_roundg (n - (k + 1))
              case measure => omega
              case rel =>
                refine ⟨k + 1, by omega, by omega, by go_num, hB5, ?_⟩
                show RN.Own _ _ _ _
                rw [HQ2.out]
                exact hO5
            · have hoi : ¬ xo ≥ 0 := ho
              rw [if_neg ho] at hq
              have HQ2 := Lib.hid hq
              clear hq hrow hrow2 hstep hbd hcd hxo
              go_wp2_with (at_builtin; refine RowKind.Own.push (R := RN) (y := xx) HO.out HB.out HB.out.size rfl _ _ rfl rfl _ rfl hlk (Nat.le_refl _) ?_; intro v5 w5 hO5 hB5 hz5)
              go_roundg (n - (k + 1))
              case measure => omega
              case rel =>
                refine ⟨k + 1, by omega, by omega, by go_num, hB5, ?_⟩
                show RN.Own _ _ _ _
                rw [HQ2.out]
                exact hO5
          · have hlz : ¬ (k : Int) < (n : Int) := by omega
            obtain rfl : k = n := by omega
            have ho := HO.out
            rw [HFull.out] at ho
            have hfin := of_own wr (RN_own.1 ho) (by have := HLen.out k; rw [HFull.out] at this; omega)
            rw [HYe.out] at hfin
            have HF := Lib.hid hfin
            have N_r := rowOf_below HR.out HB.out hlr'
            clear ho hfin hrow hrow2 hstep hbd hcd HO
            go_wp2_with fail
            refine (HF.out).mono ?_
            rintro e w3 ⟨rfl, hb3⟩
            replace N_r := rowOf_below N_r hb3 (rowOf_lt N_r)
            have HB3 := Lib.hid (HB2.out.trans ((HB.out.trans (hb3.mono HB.out.size)).mono HB2.out.size))
            clear hb3 HF
            have N_s : rowOf (setRow w3 (w.heap.size + 1 + 1) #[.int .i64 R0, .int .i64 R1, .int .i64 R2, .int .i64 R3, .int .i64 R4]) (w.heap.size + 1 + 1) = some #[.int .i64 R0, .int .i64 R1, .int .i64 R2, .int .i64 R3, .int .i64 R4] := rowOf_setRow_same _ _ (by rw [N_r]; rfl)
            go_wp2_with fail
            rw [← HQ.out]
            exact bodyPost_ret (v := .tuple #[.agg #[.int .i64 R0, .int .i64 R1, .int .i64 R2, .int .i64 R3, .int .i64 R4], .bool ok]) (by simp [results, Tryz.results21, go_sem, N_r, N_s]) rfl ⟨rfl, below_setRow HB3.out _ _ (by omega)⟩
      · have hlb : ((C.length : Int) != f) = true := by rw [hcl]; simpa using hdf
        obtain ⟨rfl, e⟩ := HNo.out (by rw [hrt]; simpa using hdf)
        simp only [TV.mk.injEq] at e
        obtain ⟨rfl, rfl, rfl, rfl, rfl⟩ := e
        clear HNo HYes HXP HP HC hcl hcb
        generalize C.length = m at *
        have N_s : rowOf (setRow w2 (w.heap.size + 1 + 1) #[.int .i64 0, .int .i64 0, .int .i64 0, .int .i64 0, .int .i64 0]) (w.heap.size + 1 + 1) = some #[.int .i64 0, .int .i64 0, .int .i64 0, .int .i64 0, .int .i64 0] := rowOf_setRow_same _ _ (by rw [N_r]; rfl)
        go_wp2_with fail
        rw [← HQ.out]
        exact bodyPost_ret (v := .tuple #[.agg #[.int .i64 0, .int .i64 0, .int .i64 0, .int .i64 0, .int .i64 0], .bool false]) (by simp [results, Tryz.results21, go_sem, N_r, N_s]) rfl ⟨rfl, below_setRow HB2.out _ _ (by omega)⟩
  · replace N_p := rowOf_below N_p hb2 hlp
    replace N_r := rowOf_below N_r hb2 hlr
    have HB2 := Lib.hid (HB1.out.trans (hb2.mono HB1.out.size))
    clear hb2 HO1 HB1 HLT N_q HXP HP HC
    obtain ⟨rfl, e⟩ := HNo.out (by rw [hrt]; cases rh <;> rfl)
    simp only [TV.mk.injEq] at e
    obtain ⟨rfl, rfl, rfl, rfl, rfl⟩ := e
    clear HNo HYes
    cases rh
    all_goals
      have N_s : rowOf (setRow w2 (w.heap.size + 1 + 1) #[.int .i64 0, .int .i64 0, .int .i64 0, .int .i64 0, .int .i64 0]) (w.heap.size + 1 + 1) = some #[.int .i64 0, .int .i64 0, .int .i64 0, .int .i64 0, .int .i64 0] := rowOf_setRow_same _ _ (by rw [N_r]; rfl)
      go_wp2_with fail
      rw [← HQ.out]
      exact bodyPost_ret (v := .tuple #[.agg #[.int .i64 0, .int .i64 0, .int .i64 0, .int .i64 0, .int .i64 0], .bool false]) (by simp [results, Tryz.results21, go_sem, N_r, N_s]) rfl ⟨rfl, below_setRow HB2.out _ _ (by omega)⟩
end Go.Proofs.YtjaahmgokiobjaaGreat
namespace Go.Proofs.YtjaahmgokiobjaaGreat
open Go.RowKit
set_option linter.unusedVariables false
set_option linter.unusedSimpArgs false

/- two timestamps, two rows of timestamps: the same? -/
instance : DecidableEq TV := fun a b =>
  if h : a.d = b.d ∧ a.c0 = b.c0 ∧ a.c1 = b.c1 ∧ a.c2 = b.c2 ∧ a.c3 = b.c3 then .isTrue (TV.ext4 h.1 h.2.1 h.2.2.1 h.2.2.2.1 h.2.2.2.2)
  else .isFalse fun e => h (by subst e; exact ⟨rfl, rfl, rfl, rfl, rfl⟩)
def eqT (a b : TV) : Bool := decide (a = b)
theorem eqT_iff (a b : TV) : eqT a b = (decide (a.d = b.d) && (decide (a.c0 = b.c0) && (decide (a.c1 = b.c1) && (decide (a.c2 = b.c2) && decide (a.c3 = b.c3))))) := by
  rw [Bool.eq_iff_iff]
  simp only [eqT, decide_eq_true_eq, Bool.and_eq_true]
  constructor
  · intro h; subst h; exact ⟨rfl, rfl, rfl, rfl, rfl⟩
  · rintro ⟨h0, h1, h2, h3, h4⟩; exact TV.ext4 h0 h1 h2 h3 h4
/-- a world in which all that was in W is as it was -/
structure Beh (W : World) where
  w : World
  h : Below W.heap.size W w
instance (W : World) : Nonempty (Beh W) := ⟨⟨W, Below.refl _ _⟩⟩
theorem wp_region_beh {P : Program} {id : Nat} {Q : Exit → Act → World → Prop} {a : Act} {w : World} {l : List Oper} (hm : P.follows .mixedOrders = true) (hB : Region.lexB .any l.toArray = true)
    (h : wpQuiet P l.toArray (fun w' => ∃ p : Beh w, w' = p.w) (fun a' => ∀ w', (∃ p : Beh w, w' = p.w) → Q .normal a' w') l a) : (Code.region id l.toArray true).wp P Q a w :=
  wp_region_quiet (C := fun w' => ∃ p : Beh w, w' = p.w) hm hB ⟨⟨_, (Below.refl _ _).drew⟩, rfl⟩ (by simpa using h)
theorem Calls.beh {P : Program} {f : FuncId} {args : Array Value} {W : World} {p : Beh W} {v : Value} (h : Calls P f args p.w (Ret v p.w)) : Calls P f args p.w fun e w'' => e = .returned v ∧ ∃ q : Beh W, w'' = q.w :=
  h.mono fun _ w' ⟨he, hb⟩ => ⟨he, ⟨w', bcall p.h hb p.h.size⟩, rfl⟩
theorem beh_cell {W : World} {a : Addr} {v : Value} (h : W.cell? a = some v) (p : Beh W) : p.w.cell? a = some v := (p.h.cell (World.block_lt_of_cell? _ _ h)).trans h

theorem eqArr4 (d : Nat) (a0 a1 a2 a3 b0 b1 b2 b3 : Int) (w : World) :
    (Op.equalIn (d + 1 + 1) 27 (.agg #[.int .i64 a0, .int .i64 a1, .int .i64 a2, .int .i64 a3]) (.agg #[.int .i64 b0, .int .i64 b1, .int .i64 b2, .int .i64 b3])).run Tryz.prog w
      = .ok (a0 == b0 && (a1 == b1 && (a2 == b2 && a3 == b3))) w := by
  have hp : ∀ (x0 x1 x2 x3 : Value) (w : World), (part 3 #[x0, x1, x2, x3] 0).run Tryz.prog w = .ok x0 w ∧ (part 3 #[x0, x1, x2, x3] 1).run Tryz.prog w = .ok x1 w ∧ (part 3 #[x0, x1, x2, x3] 2).run Tryz.prog w = .ok x2 w ∧ (part 3 #[x0, x1, x2, x3] 3).run Tryz.prog w = .ok x3 w := fun _ _ _ _ _ => ⟨by kernel_rfl, by kernel_rfl, by kernel_rfl, by kernel_rfl⟩
  have hs : ∀ w, (sizeOf 3).run Tryz.prog w = .ok 1 w := fun _ => by kernel_rfl
  have he : ∀ (a b : Int) (w : World), (Op.equalIn (d + 1) 3 (.int .i64 a) (.int .i64 b)).run Tryz.prog w = .ok (a == b) w := fun a b w => run_equalIn_int w d _ .i64 .i64 a b Tryz.underlying3
  rw [Op.equalIn]
  simp [run_underlying Tryz.underlying27, hs, Std.Legacy.Range.forIn_eq_forIn_range', Std.Legacy.Range.size, List.range', hp, he]
  by_cases h0 : a0 = b0 <;> by_cases h1 : a1 = b1 <;> by_cases h2 : a2 = b2 <;> by_cases h3 : a3 = b3 <;> simp [h0, h1, h2, h3, hp, he]
attribute [local go_sem] eqArr4
set_option maxRecDepth 100000 in
theorem eqTime (a0 a1 a2 a3 a4 b0 b1 b2 b3 b4 : Int) (w : World) : (binOp .eql 29 (.agg #[.int .i64 a0, .int .i64 a1, .int .i64 a2, .int .i64 a3, .int .i64 a4]) (.agg #[.int .i64 b0, .int .i64 b1, .int .i64 b2, .int .i64 b3, .int .i64 b4])).run Tryz.prog w = .ok (.bool (eqT ⟨a0, a1, a2, a3, a4⟩ ⟨b0, b1, b2, b3, b4⟩)) w := by
  have u3 := Tryz.underlying3
  have u22 := Tryz.underlying27
  have hS : Tryz.prog.underlying 29 = some (.struct (Tryz.prog.fieldsOf 29)) := by kernel_rfl
  have hp : Tryz.prog.stoodInHeld 29 = false := by kernel_rfl
  rw [run_eql_struct, show (10000 : Nat) = 9999 + 1 from rfl, run_equalIn_agg w 9999 29 _ _ hS hp]
  simp only [Program.fieldsOf, Tryz.underlying29]
  rw [eqT_iff]
  simp only
  go_simp
  by_cases h0 : a0 = b0 <;> by_cases h1 : a1 = b1 <;> by_cases h2 : a2 = b2 <;> by_cases h3 : a3 = b3 <;> by_cases h4 : a4 = b4 <;> simp [h0, h1, h2, h3, h4, Result.andThen]
set_option maxRecDepth 100000 in
theorem neTime (a0 a1 a2 a3 a4 b0 b1 b2 b3 b4 : Int) (w : World) : (binOp .neq 29 (.agg #[.int .i64 a0, .int .i64 a1, .int .i64 a2, .int .i64 a3, .int .i64 a4]) (.agg #[.int .i64 b0, .int .i64 b1, .int .i64 b2, .int .i64 b3, .int .i64 b4])).run Tryz.prog w = .ok (.bool (!eqT ⟨a0, a1, a2, a3, a4⟩ ⟨b0, b1, b2, b3, b4⟩)) w := by
  have u3 := Tryz.underlying3
  have u22 := Tryz.underlying27
  have hS : Tryz.prog.underlying 29 = some (.struct (Tryz.prog.fieldsOf 29)) := by kernel_rfl
  have hp : Tryz.prog.stoodInHeld 29 = false := by kernel_rfl
  rw [run_neq_struct, show (10000 : Nat) = 9999 + 1 from rfl, run_equalIn_agg w 9999 29 _ _ hS hp]
  simp only [Program.fieldsOf, Tryz.underlying29]
  rw [eqT_iff]
  simp only
  go_simp
  by_cases h0 : a0 = b0 <;> by_cases h1 : a1 = b1 <;> by_cases h2 : a2 = b2 <;> by_cases h3 : a3 = b3 <;> by_cases h4 : a4 = b4 <;> simp [h0, h1, h2, h3, h4, Result.andThen]
attribute [local go_sem ↓] eqTime neTime

set_option maxRecDepth 100000 in
set_option maxHeartbeats 4000000 in
theorem same_row (xs ys : List TV) (b off cap b2 off2 cap2 : Nat) (w : World) (hl : xs.length ≤ 2000000000000) (hlen : xs.length = ys.length) (hb : b < w.heap.size) (hr : RowT w b off xs) (hb2 : b2 < w.heap.size) (hr2 : RowT w b2 off2 ys) :
    Calls Tryz.prog 9 #[.slice (some ⟨b, off, none⟩) xs.length cap, .slice (some ⟨b2, off2, none⟩) ys.length cap2] w (Ret (.bool (decide (xs = ys))) w) := by
  have hrow : Hid (∀ (W : World), Below w.heap.size w W → ∀ j, j < xs.length → _) := fun W hW j hj => (hr.below hW hb).at j hj
  have hrow2 : Hid (∀ (W : World), Below w.heap.size w W → ∀ j, j < ys.length → _) := fun W hW j hj => (hr2.below hW hb2).at j hj
  clear hr hr2
  rw [← hlen]
  generalize hn : xs.length = n at hl hlen
  have HN := Lib.hid hn
  have HM := Lib.hid hlen
  clear hn hlen
  generalize hres : decide (xs = ys) = res
  have HR := Lib.hid hres
  clear hres
  go_enter Tryz.func9, Tryz.ntmps9
  go_wp2
  go_loopg [5] n (fun gg i wr => ∃ k : Nat, k ≤ n ∧ n - k ≤ gg ∧ i = .int .i64 k ∧ Hid (Below w.heap.size w wr) ∧ Hid (xs.take k = ys.take k))
  case atStart => exact ⟨0, Nat.zero_le _, by omega, rfl, (Below.refl _ _), rfl⟩
  case round =>
    obtain ⟨k, hkn, hg, rfl, HB, HC⟩ := hrel
    by_cases hlt : k < n
    · have hlz : (k : Int) < (n : Int) := by omega
      have hc := fun m => hrow.out (wr.drewN m) (below_drewN HB.out m) k (by rw [HN.out]; exact hlt)
      have hc2 := fun m => hrow2.out (wr.drewN m) (below_drewN HB.out m) k (by rw [← HM.out]; exact hlt)
      have hgo := fun (h : xs[k]! = ys[k]!) => show xs.take (k + 1) = ys.take (k + 1) by rw [take_get xs k (by rw [HN.out]; exact hlt), take_get ys k (by rw [← HM.out]; exact hlt), HC.out, h]
      have hno := fun (h : ¬ xs[k]! = ys[k]!) => show res = false from by rw [← HR.out]; exact decide_eq_false (fun e => h (by rw [e]))
      generalize xs[k]! = x at hc hgo hno
      generalize ys[k]! = y at hc2 hgo hno
      have e0 := fun m => (hc m).1; have e1 := fun m => (hc m).2.1; have e2 := fun m => (hc m).2.2.1; have e3 := fun m => (hc m).2.2.2.1; have e4 := fun m => (hc m).2.2.2.2
      have f0 := fun m => (hc2 m).1; have f1 := fun m => (hc2 m).2.1; have f2 := fun m => (hc2 m).2.2.1; have f3 := fun m => (hc2 m).2.2.2.1; have f4 := fun m => (hc2 m).2.2.2.2
      clear hc hc2 hrow hrow2
      by_cases hxy : x = y
      · have hq : eqT ⟨x.d, x.c0, x.c1, x.c2, x.c3⟩ ⟨y.d, y.c0, y.c1, y.c2, y.c3⟩ = true := decide_eq_true (by rw [hxy])
        have HG := Lib.hid (hgo hxy)
        clear hgo hno hxy
        go_wp2_with fail
        go_quiet (fail)
        go_wp2
        go_roundg (n - (k + 1))
        case measure => omega
        case rel => exact ⟨k + 1, by omega, by omega, by go_num, below_drewN HB.out _, HG.out⟩
      · have hq : eqT ⟨x.d, x.c0, x.c1, x.c2, x.c3⟩ ⟨y.d, y.c0, y.c1, y.c2, y.c3⟩ = false := decide_eq_false (fun e => hxy (by cases x; cases y; exact e))
        have HG := Lib.hid (hno hxy)
        clear hgo hno hxy
        go_wp2_with fail
        go_quiet (fail)
        go_wp2
        go_returns
        exact ⟨ret_bool HG.out.symm, below_drewN HB.out _⟩
    · have hlz : ¬ (k : Int) < (n : Int) := by omega
      have : k = n := by omega
      subst this
      have HX : Hid (res = true) := by
        have h := HC.out
        rw [List.take_of_length_le (by rw [HN.out]; exact Nat.le_refl _), List.take_of_length_le (by rw [← HM.out]; exact Nat.le_refl _)] at h
        show res = true
        rw [← HR.out]
        exact decide_eq_true h
      clear HC hrow hrow2
      go_wp2
      go_returns
      exact ⟨ret_bool HX.out.symm, HB.out⟩
set_option maxHeartbeats 2000000 in
theorem same_no (xs ys : List TV) (p q : Option Addr) (cap cap2 : Nat) (w : World) (hlen : xs.length ≠ ys.length) (h1 : xs.length ≤ 2000000000000) (h2 : ys.length ≤ 2000000000000) :
    Calls Tryz.prog 9 #[.slice p xs.length cap, .slice q ys.length cap2] w (Ret (.bool (decide (xs = ys))) w) := by
  rw [decide_eq_false (fun e => hlen (by rw [e]))]
  generalize xs.length = n at *
  generalize ys.length = m at *
  have hne : ¬ (n : Int) = (m : Int) := by omega
  have hneb : ((n : Int) != (m : Int)) = true := by simpa using hne
  go_enter Tryz.func9, Tryz.ntmps9
  go_wp2
  go_returns
  exact ⟨rfl, Below.refl _ _⟩
set_option maxHeartbeats 2000000 in
theorem same_nil (p q : Option Addr) (cap cap2 : Nat) (w : World) :
    Calls Tryz.prog 9 #[.slice p 0 cap, .slice q 0 cap2] w (Ret (.bool (decide (([] : List TV) = []))) w) := by
  rw [decide_eq_true rfl]
  go_enter Tryz.func9, Tryz.ntmps9
  go_wp2
  refine wp_loop_rounds 1 ?_
  rw [rounds_succ]
  go_wp2
  go_returns
  exact ⟨rfl, Below.refl _ _⟩
theorem same_any (xs ys : List TV) (va vb : Value) (w : World) (h1 : xs.length ≤ 2000000000000) (h2 : ys.length ≤ 2000000000000) (ha : IsT w va xs) (hb : IsT w vb ys) : Calls Tryz.prog 9 #[va, vb] w (Ret (.bool (decide (xs = ys))) w) := by
  by_cases hlen : xs.length = ys.length
  · rcases ha with ⟨rfl, p, cap, rfl, _⟩ | ⟨hne, b, off, cap, rfl, hl, hr⟩
    · obtain rfl : ys = [] := List.length_eq_zero_iff.1 hlen.symm
      obtain ⟨q, d, rfl⟩ := hb.slice
      exact same_nil p q cap d w
    · rcases hb with ⟨rfl, q, d, rfl, _⟩ | ⟨_, b2, off2, cap2, rfl, hl2, hr2⟩
      · exact absurd (List.length_eq_zero_iff.1 hlen) hne
      · exact same_row xs ys b off cap b2 off2 cap2 w h1 hlen hl hr hl2 hr2
  · obtain ⟨p, c, rfl⟩ := ha.slice
    obtain ⟨q, d, rfl⟩ := hb.slice
    exact same_no xs ys p q c d w hlen h1 h2

end Go.Proofs.YtjaahmgokiobjaaGreat
