/- the document's Then on steps: the walk -/
import Derived.Test.YtacmdkbmakfdkaaPd
import Derived.Deep.CutRange
import Derived.StillTailTactics
namespace Go.Proofs.Ytacmdkbmakfdkaa
open Go.RowKit
set_option linter.unusedVariables false
set_option linter.unusedSimpArgs false
attribute [local go_sem ↓] loadH loadT storeH storeT
attribute [local simp] size_setRow
attribute [local go_sem] rowAt_head rowOf_alloc_at rowOf_alloc_past rowOf_drew rowOf_drewN rowOf_setRow_same rowOf_setRow_other rowOf_setCell_same rowOf_setCell_other size_setRow setRow_drew setRow_alloc_at setRow_alloc_past one_int one_bool cell_setRow_same cell_setRow_other frozen_setRow_same frozen_setRow_other

theorem RowKind.Own.setOther {α : Type} {R : RowKind α} {B : Nat} {w : World} {v : Value} {xs : List α} (h : R.Own B w v xs) (a : Addr) (x : Value) (hne : v.ownBlock ≠ some a.block) : R.Own B (w.setCell a x) v xs := by
  obtain ⟨h1, h2⟩ := h
  refine ⟨h1, ?_⟩
  rcases h2 with h2 | ⟨g, cap, cur, rfl, hB, hg, rest⟩
  · exact .inl h2
  · exact .inr ⟨g, cap, cur, rfl, hB, (Below.heap_setCell w a x g (fun e => hne (by subst e; rfl))).trans hg, rest⟩
theorem after_store {w2 W : World} {u : Value} {Q : List PV} {b : Nat} {o x : Int} (o2 x2 : Int) (hr : rowOf W b = some #[.int .i64 o, .int .i64 x]) (hb : Below w2.heap.size w2 W) (h2 : w2.heap.size ≤ b) (ho : RP.Own w2.heap.size W u Q) (hne : u.ownBlock ≠ some b) :
    Below w2.heap.size w2 ((W.setCell ⟨b, 0, none⟩ (.int .i64 o2)).setCell ⟨b, 1, none⟩ (.int .i64 x2)) ∧
    RP.Own w2.heap.size ((W.setCell ⟨b, 0, none⟩ (.int .i64 o2)).setCell ⟨b, 1, none⟩ (.int .i64 x2)) u Q ∧
    ((W.setCell ⟨b, 0, none⟩ (.int .i64 o2)).setCell ⟨b, 1, none⟩ (.int .i64 x2)).cell? ⟨b, 0, none⟩ = some (.int .i64 o2) ∧
    ((W.setCell ⟨b, 0, none⟩ (.int .i64 o2)).setCell ⟨b, 1, none⟩ (.int .i64 x2)).cell? ⟨b, 1, none⟩ = some (.int .i64 x2) := by
  have hr : rowOf ((W.setCell ⟨b, 0, none⟩ (.int .i64 o2)).setCell ⟨b, 1, none⟩ (.int .i64 x2)) b = some #[.int .i64 o2, .int .i64 x2] := by
    rw [rowOf_setCell_same, rowOf_setCell_same, hr]
    rfl
  exact ⟨(hb.setCell h2 _).setCell h2 _, (ho.setOther _ _ hne).setOther _ _ hne, rowOf_cell hr 0, rowOf_cell hr 1⟩
def cmbP (Y X : List PV) : List PV := Y.map (fun (p : PV) => if (0 : Int) ≤ p.o then ⟨X[p.o.toNat]!.o, X[p.o.toNat]!.x + p.x⟩ else p)
theorem cmbP_take (Y X : List PV) (k : Nat) (hk : k < Y.length) : cmbP (Y.take (k + 1)) X = cmbP (Y.take k) X ++ [if (0 : Int) ≤ Y[k]!.o then ⟨X[Y[k]!.o.toNat]!.o, X[Y[k]!.o.toNat]!.x + Y[k]!.x⟩ else Y[k]!] := by
  unfold cmbP
  rw [take_getA Y k hk, List.map_append]
  rfl
def rthenOk (a b : HV) : Bool := a.rightB && b.rightB && decide (((partsP a).length : Int) = b.f) && (ofL a.f (cmbP (partsP b) (partsP a))).rightB
def rthenV (a b : HV) : HV := HV.gate (rthenOk a b) (ofL a.f (cmbP (partsP b) (partsP a)))
set_option maxRecDepth 100000 in
set_option maxHeartbeats 8000000 in
theorem rthen_any (a b : HV) (hxb : a.rightB = true → ∀ p ∈ partsP a, 0 ≤ p.x ∧ p.x ≤ 1048576) (hyb : a.rightB = true → b.rightB = true → ((partsP a).length : Int) = b.f → ∀ p ∈ partsP b, 0 ≤ p.x ∧ p.x ≤ 1048576 ∧ (0 ≤ p.o → p.o < b.f)) (w : World) :
    Calls Try.prog 19 #[a.val, b.val] w (Ret (.tuple #[(rthenV a b).val, .bool (rthenOk a b)]) w) := by
  have hPA := fun W => parts_any a W
  have hPB := fun W => parts_any b W
  unfold PartsR at hPA hPB
  have hno : (a.rightB = false ∨ b.rightB = false ∨ ¬ ((partsP a).length : Int) = b.f) → rthenOk a b = false ∧ rthenV a b = HV.zero := fun h => by
    have e : rthenOk a b = false := by
      unfold rthenOk
      rcases h with h | h | h
      · rw [h]; rfl
      · rw [h]; cases a.rightB <;> rfl
      · rw [decide_eq_false h]; cases a.rightB <;> cases b.rightB <;> rfl
    exact ⟨e, by unfold rthenV; rw [e]; rfl⟩
  have hyes : a.rightB = true → b.rightB = true → ((partsP a).length : Int) = b.f → (ofL a.f (cmbP (partsP b) (partsP a))).rightB = rthenOk a b ∧ HV.gate (rthenOk a b) (ofL a.f (cmbP (partsP b) (partsP a))) = rthenV a b := fun h1 h2 h3 => by
    refine ⟨?_, rfl⟩
    unfold rthenOk
    rw [h1, h2, decide_eq_true h3]
    rfl
  have hX : a.rightB = true → (if a.rightB = true then partsP a else []) = partsP a := fun e => if_pos e
  have hY : b.rightB = true → (if b.rightB = true then partsP b else []) = partsP b := fun e => if_pos e
  have hn1 : a.rightB = true → partsP a ≠ [] := fun e => by
    have := partsP_num e
    exact fun n => by rw [n] at this; simp at this
  have hn2 : b.rightB = true → partsP b ≠ [] ∧ (partsP b).length ≤ 4 := fun e => by
    have := partsP_num e
    exact ⟨fun n => by rw [n] at this; simp at this, this.2.2⟩
  generalize rthenV a b = G at *
  generalize rthenOk a b = ok at *
  obtain ⟨G0, G1, G2, G3, G4, G5, G6, G7, G8, G9, G10⟩ := G
  generalize (if a.rightB = true then partsP a else []) = X at *
  generalize (if b.rightB = true then partsP b else []) = Y at *
  generalize partsP a = P at *
  generalize partsP b = R at *
  generalize a.rightB = ra at *
  generalize b.rightB = rb at *
  obtain ⟨f, k, t, a0, a1, a2, a3, b0, b1, b2, b3⟩ := a
  obtain ⟨g, l, u, d0, d1, d2, d3, e0, e1, e2, e3⟩ := b
  simp only at hno hyes hxb hyb hPA hPB
  have HPA := Lib.hid hPA; have HPB := Lib.hid hPB; have HNo := Lib.hid hno; have HYes := Lib.hid hyes; have HXP := Lib.hid hX; have HYP := Lib.hid hY; have HN1 := Lib.hid hn1; have HN2 := Lib.hid hn2; have HXB := Lib.hid hxb; have HYB := Lib.hid hyb
  clear hPA hPB hno hyes hX hY hn1 hn2 hxb hyb
  have N_p0 : rowOf (((w.alloc (.cells #[.int .i64 f, .int .i64 k, .int .i64 t, .int .i64 a0, .int .i64 a1, .int .i64 a2, .int .i64 a3, .int .i64 b0, .int .i64 b1, .int .i64 b2, .int .i64 b3] 46)).alloc (.cells #[.int .i64 g, .int .i64 l, .int .i64 u, .int .i64 d0, .int .i64 d1, .int .i64 d2, .int .i64 d3, .int .i64 e0, .int .i64 e1, .int .i64 e2, .int .i64 e3] 46)).alloc (.cells #[.int .i64 0, .int .i64 0, .int .i64 0, .int .i64 0, .int .i64 0, .int .i64 0, .int .i64 0, .int .i64 0, .int .i64 0, .int .i64 0, .int .i64 0] 46)) w.heap.size = some #[.int .i64 f, .int .i64 k, .int .i64 t, .int .i64 a0, .int .i64 a1, .int .i64 a2, .int .i64 a3, .int .i64 b0, .int .i64 b1, .int .i64 b2, .int .i64 b3] := by rw [rowOf_alloc_past _ _ (by first | (simp; done) | (simp; omega)), rowOf_alloc_past _ _ (by first | (simp; done) | (simp; omega))]; exact rowOf_alloc_at _ _ _ rfl
  have N_q0 : rowOf (((w.alloc (.cells #[.int .i64 f, .int .i64 k, .int .i64 t, .int .i64 a0, .int .i64 a1, .int .i64 a2, .int .i64 a3, .int .i64 b0, .int .i64 b1, .int .i64 b2, .int .i64 b3] 46)).alloc (.cells #[.int .i64 g, .int .i64 l, .int .i64 u, .int .i64 d0, .int .i64 d1, .int .i64 d2, .int .i64 d3, .int .i64 e0, .int .i64 e1, .int .i64 e2, .int .i64 e3] 46)).alloc (.cells #[.int .i64 0, .int .i64 0, .int .i64 0, .int .i64 0, .int .i64 0, .int .i64 0, .int .i64 0, .int .i64 0, .int .i64 0, .int .i64 0, .int .i64 0] 46)) (w.heap.size + 1) = some #[.int .i64 g, .int .i64 l, .int .i64 u, .int .i64 d0, .int .i64 d1, .int .i64 d2, .int .i64 d3, .int .i64 e0, .int .i64 e1, .int .i64 e2, .int .i64 e3] := by rw [rowOf_alloc_past _ _ (by first | (simp; done) | (simp; omega))]; exact rowOf_alloc_at _ _ _ (by first | (simp; done) | (simp; omega))
  have N_r0 : rowOf (((w.alloc (.cells #[.int .i64 f, .int .i64 k, .int .i64 t, .int .i64 a0, .int .i64 a1, .int .i64 a2, .int .i64 a3, .int .i64 b0, .int .i64 b1, .int .i64 b2, .int .i64 b3] 46)).alloc (.cells #[.int .i64 g, .int .i64 l, .int .i64 u, .int .i64 d0, .int .i64 d1, .int .i64 d2, .int .i64 d3, .int .i64 e0, .int .i64 e1, .int .i64 e2, .int .i64 e3] 46)).alloc (.cells #[.int .i64 0, .int .i64 0, .int .i64 0, .int .i64 0, .int .i64 0, .int .i64 0, .int .i64 0, .int .i64 0, .int .i64 0, .int .i64 0, .int .i64 0] 46)) (w.heap.size + 1 + 1) = some #[.int .i64 0, .int .i64 0, .int .i64 0, .int .i64 0, .int .i64 0, .int .i64 0, .int .i64 0, .int .i64 0, .int .i64 0, .int .i64 0, .int .i64 0] := rowOf_alloc_at _ _ _ (by first | (simp; done) | (simp; omega))
  have hb0 := (((Below.refl w.heap.size w).alloc (Nat.le_refl _) (.cells #[.int .i64 f, .int .i64 k, .int .i64 t, .int .i64 a0, .int .i64 a1, .int .i64 a2, .int .i64 a3, .int .i64 b0, .int .i64 b1, .int .i64 b2, .int .i64 b3] 46)).alloc (by first | (simp; done) | (simp; omega)) (.cells #[.int .i64 g, .int .i64 l, .int .i64 u, .int .i64 d0, .int .i64 d1, .int .i64 d2, .int .i64 d3, .int .i64 e0, .int .i64 e1, .int .i64 e2, .int .i64 e3] 46)).alloc (by first | (simp; done) | (simp; omega)) (.cells #[.int .i64 0, .int .i64 0, .int .i64 0, .int .i64 0, .int .i64 0, .int .i64 0, .int .i64 0, .int .i64 0, .int .i64 0, .int .i64 0, .int .i64 0] 46)
  have HPp := Lib.hid N_p0; have HQq := Lib.hid N_q0; have HRr := Lib.hid N_r0; have HB0 := Lib.hid hb0
  clear N_p0 N_q0 N_r0 hb0
  go_enter Try.func19, Try.ntmps19
  generalize hQ : bodyPost _ _ _ = Q0
  have HQ := Lib.hid hQ
  clear hQ
  go_wp2_with fail
  refine (HPA.out _).mono ?_
  rintro e w1 ⟨v1, rfl, hO1, hb1⟩
  have N_p := rowOf_below HPp.out hb1 (by first | (simp; done) | (simp; omega))
  have N_q := rowOf_below HQq.out hb1 (by first | (simp; done) | (simp; omega))
  have N_r := rowOf_below HRr.out hb1 (by first | (simp; done) | (simp; omega))
  have HB1 := Lib.hid (HB0.out.trans (hb1.mono HB0.out.size))
  have HO1 := Lib.hid hO1.is
  clear hb1 hO1 HPA HPp HQq HRr HB0
  go_wp2_with fail
  refine (HPB.out _).mono ?_
  rintro e w2 ⟨v2, rfl, hO2, hb2⟩
  have hlp := rowOf_lt N_p
  have hlq := rowOf_lt N_q
  have hlr := rowOf_lt N_r
  have hlr' := Nat.lt_of_lt_of_le hlr hb2.size
  have hlp' := Nat.lt_of_lt_of_le hlp hb2.size
  replace N_p := rowOf_below N_p hb2 hlp
  replace N_q := rowOf_below N_q hb2 hlq
  replace N_r := rowOf_below N_r hb2 hlr
  have HB2 := Lib.hid (HB1.out.trans (hb2.mono HB1.out.size))
  have HX := Lib.hid (HO1.out.below hb2)
  have HY := Lib.hid hO2.is
  have q_0 : w2.cell? ⟨w.heap.size + 1, 0, none⟩ = some (.int .i64 g) := rowOf_cell N_q 0
  clear hb2 hO2 HO1 HB1 HPB N_q hlp hlq
  obtain ⟨p1, c1, rfl⟩ := HX.out.slice
  obtain ⟨p2, c2, rfl⟩ := HY.out.slice
  cases ra
  · obtain ⟨rfl, e⟩ := HNo.out (.inl rfl)
    unfold HV.zero at e
    simp only [HV.mk.injEq] at e
    obtain ⟨rfl, rfl, rfl, rfl, rfl, rfl, rfl, rfl, rfl, rfl, rfl⟩ := e
    clear HNo HYes HXP HYP HN1 HN2 HXB HYB
    have N_s : rowOf (setRow w2 (w.heap.size + 1 + 1) #[.int .i64 0, .int .i64 0, .int .i64 0, .int .i64 0, .int .i64 0, .int .i64 0, .int .i64 0, .int .i64 0, .int .i64 0, .int .i64 0, .int .i64 0]) (w.heap.size + 1 + 1) = some #[.int .i64 0, .int .i64 0, .int .i64 0, .int .i64 0, .int .i64 0, .int .i64 0, .int .i64 0, .int .i64 0, .int .i64 0, .int .i64 0, .int .i64 0] := rowOf_setRow_same _ _ (by rw [N_r]; rfl)
    go_wp2_with fail
    rw [← HQ.out]
    exact bodyPost_ret (v := .tuple #[.agg #[.int .i64 0, .int .i64 0, .int .i64 0, .int .i64 0, .int .i64 0, .int .i64 0, .int .i64 0, .int .i64 0, .int .i64 0, .int .i64 0, .int .i64 0], .bool false]) (by simp [results, Try.results19, go_sem, N_r, N_s]) rfl ⟨rfl, below_setRow HB2.out _ _ (by omega)⟩
  cases rb
  · obtain ⟨rfl, e⟩ := HNo.out (.inr (.inl rfl))
    unfold HV.zero at e
    simp only [HV.mk.injEq] at e
    obtain ⟨rfl, rfl, rfl, rfl, rfl, rfl, rfl, rfl, rfl, rfl, rfl⟩ := e
    clear HNo HYes HXP HYP HN1 HN2 HXB HYB
    have N_s : rowOf (setRow w2 (w.heap.size + 1 + 1) #[.int .i64 0, .int .i64 0, .int .i64 0, .int .i64 0, .int .i64 0, .int .i64 0, .int .i64 0, .int .i64 0, .int .i64 0, .int .i64 0, .int .i64 0]) (w.heap.size + 1 + 1) = some #[.int .i64 0, .int .i64 0, .int .i64 0, .int .i64 0, .int .i64 0, .int .i64 0, .int .i64 0, .int .i64 0, .int .i64 0, .int .i64 0, .int .i64 0] := rowOf_setRow_same _ _ (by rw [N_r]; rfl)
    go_wp2_with fail
    rw [← HQ.out]
    exact bodyPost_ret (v := .tuple #[.agg #[.int .i64 0, .int .i64 0, .int .i64 0, .int .i64 0, .int .i64 0, .int .i64 0, .int .i64 0, .int .i64 0, .int .i64 0, .int .i64 0, .int .i64 0], .bool false]) (by simp [results, Try.results19, go_sem, N_r, N_s]) rfl ⟨rfl, below_setRow HB2.out _ _ (by omega)⟩
  have hXP := HXP.out rfl
  subst hXP
  have hYP := HYP.out rfl
  subst hYP
  by_cases hg : (X.length : Int) = g
  · have hlb : ((X.length : Int) != g) = false := by simp [hg]
    obtain ⟨hok, hgv⟩ := HYes.out rfl rfl hg
    have hxn := HN1.out rfl
    obtain ⟨hyn, hy4⟩ := HN2.out rfl
    have hxb := HXB.out rfl
    have hyb := HYB.out rfl rfl hg
    clear HNo HYes HXP HYP HN1 HN2 HXB HYB
    rcases HX.out with ⟨e, _⟩ | ⟨_, g1, o1, cx1, e1, hg1, hr1⟩
    · exact absurd e hxn
    rcases HY.out with ⟨e, _⟩ | ⟨_, g2, o2, cx2, e2, hg2, hr2⟩
    · exact absurd e hyn
    simp only [Value.slice.injEq] at e1 e2
    obtain ⟨rfl, _, rfl⟩ := e1
    obtain ⟨rfl, _, rfl⟩ := e2
    have hrow : Hid (∀ (W : World), Below w2.heap.size w2 W → ∀ j, j < X.length → _) := fun W hW j hj => atP (hr1.below hW hg1) j hj
    have hrow2 : Hid (∀ (W : World), Below w2.heap.size w2 W → ∀ j, j < Y.length → _) := fun W hW j hj => atP (hr2.below hW hg2) j hj
    have hstep := Lib.hid (cmbP_take Y X)
    have hbd : Hid (∀ j, j < Y.length → 0 ≤ Y[j]!.x ∧ Y[j]!.x ≤ 1048576 ∧ (0 ≤ Y[j]!.o → Y[j]!.o.toNat < X.length)) := fun j hj => by
      have := hyb Y[j]! (by rw [getElem!_pos Y j hj]; exact List.getElem_mem hj)
      omega
    have hcd : Hid (∀ j, j < X.length → 0 ≤ X[j]!.x ∧ X[j]!.x ≤ 1048576) := fun j hj => hxb X[j]! (by rw [getElem!_pos X j hj]; exact List.getElem_mem hj)
    have hfull : cmbP (Y.take Y.length) X = cmbP Y X := by rw [List.take_length]
    have hcl : (cmbP Y X).length ≤ 4 ∧ cmbP Y X ≠ [] := by
      refine ⟨by unfold cmbP; rw [List.length_map]; exact hy4, fun e => hyn ?_⟩
      unfold cmbP at e
      exact List.map_eq_nil_iff.1 e
    have hlen : ∀ k, (cmbP (Y.take k) X).length ≤ 900000 := fun k => by unfold cmbP; rw [List.length_map, List.length_take]; omega
    have HOf : Hid (∀ W u, RP.Is W u (cmbP Y X) → Calls Try.prog 46 #[.int .i64 f, u] W (Ret (.tuple #[.agg #[.int .i64 G0, .int .i64 G1, .int .i64 G2, .int .i64 G3, .int .i64 G4, .int .i64 G5, .int .i64 G6, .int .i64 G7, .int .i64 G8, .int .i64 G9, .int .i64 G10], .bool ok]) W)) := fun W u h => by
      have q := rof_any f (cmbP Y X) u W hcl.1 hcl.2 h
      rw [hok, hgv] at q
      exact q
    have HFull := Lib.hid hfull; have HLen := Lib.hid hlen
    have p_0 : w2.cell? ⟨w.heap.size, 0, none⟩ = some (.int .i64 f) := rowOf_cell N_p 0
    have HP0 := Lib.hid p_0; have HR := Lib.hid N_r
    clear hr1 hr2 HX HY hfull hlen hcl hok hgv hxb hyb hxn hyn N_p N_r p_0
    generalize hn : Y.length = n at *
    generalize hm : X.length = m at *
    have HN := Lib.hid hn; have HM := Lib.hid hm
    clear hn hm hg
    go_wp2_with fail
    go_loopg [10, 11] n (fun gg u i wr => ∃ k : Nat, k ≤ n ∧ n - k ≤ gg ∧ i = .int .i64 k ∧ Hid (Below w2.heap.size w2 wr) ∧ Hid (RP.Own w2.heap.size wr u (cmbP (Y.take k) X)))
    case atStart => exact ⟨0, Nat.zero_le _, by omega, rfl, (Below.refl _ _), RowKind.Own.nil RP _ _⟩
    case round =>
      obtain ⟨k, hkn, hgg, rfl, HB, HO⟩ := hrel
      by_cases hlt : k < n
      · have hlz : (k : Int) < (n : Int) := by omega
        obtain ⟨x0, x1⟩ := hrow2.out wr HB.out k hlt
        obtain ⟨hx0, hx1, hxo⟩ := hbd.out k hlt
        have hq := hstep.out k hlt
        have hlk := HLen.out k
        generalize Y[k]! = x at *
        obtain ⟨xo, xx⟩ := x
        simp only at x0 x1 hx0 hx1 hxo hq
        by_cases ho : 0 ≤ xo
        · obtain ⟨on, rfl⟩ := Int.eq_ofNat_of_zero_le ho
          have hom : on < m := by have := hxo ho; simpa using this
          have homi : (on : Int) < (m : Int) := by omega
          have hoi : (on : Int) ≥ 0 := ho
          obtain ⟨y0, y1⟩ := hrow.out wr HB.out on hom
          obtain ⟨hy0, hy1⟩ := hcd.out on hom
          have hg1w : g1 < wr.heap.size := Nat.lt_of_lt_of_le hg1 HB.out.size
          have hg1n : g1 ≠ wr.heap.size := Nat.ne_of_lt hg1w
          rw [if_pos ho, Int.toNat_natCast] at hq
          generalize X[on]! = y at *
          obtain ⟨yo, yx⟩ := y
          simp only at y0 y1 hy0 hy1 hq
          have HQ2 := Lib.hid hq
          clear hq hrow hrow2 hstep hbd hcd hxo
          have hne : u10.ownBlock ≠ some wr.heap.size := fun e => by
            have := (HO.out.lt _ e).2
            omega
          have hbs := HB.out.size
          have hr12 : rowOf (wr.alloc (.cells #[.int .i64 (on : Int), .int .i64 xx] 86)) wr.heap.size = some #[.int .i64 (on : Int), .int .i64 xx] := rowOf_alloc_at _ _ _ rfl
          have hyy0 : (wr.alloc (.cells #[.int .i64 (on : Int), .int .i64 xx] 86)).cell? ⟨g1, o1 + on * 2, none⟩ = some (.int .i64 yo) := (((Below.refl wr.heap.size wr).alloc (Nat.le_refl _) _).cell (p := ⟨g1, _, none⟩) hg1w).trans y0
          have hyy1 : (wr.alloc (.cells #[.int .i64 (on : Int), .int .i64 xx] 86)).cell? ⟨g1, o1 + on * 2 + 1, none⟩ = some (.int .i64 yx) := (((Below.refl wr.heap.size wr).alloc (Nat.le_refl _) _).cell (p := ⟨g1, _, none⟩) hg1w).trans y1
          have hBw := HB.out.alloc HB.out.size (.cells #[.int .i64 (on : Int), .int .i64 xx] 86)
          have hOw := HO.out.alloc (.cells #[.int .i64 (on : Int), .int .i64 xx] 86)
          clear y0 y1 HB HO
          go_upto_region 11 with (fail)
          clear x0 x1
          refine gen_world (fun W => rowOf W wr.heap.size = some #[.int .i64 (on : Int), .int .i64 xx] ∧ W.cell? ⟨g1, o1 + on * 2, none⟩ = some (.int .i64 yo) ∧ W.cell? ⟨g1, o1 + on * 2 + 1, none⟩ = some (.int .i64 yx) ∧ Below w2.heap.size w2 W ∧ RP.Own w2.heap.size W u10 (cmbP (Y.take k) X)) ⟨hr12, hyy0, hyy1, hBw, hOw⟩ ?_
          clear hr12 hyy0 hyy1 hBw hOw
          rintro W ⟨hr12, y0, y1, hBw, hOw⟩
          generalize wr.heap.size = b at *
          have hwr : IntKind.i64.wrap (yx + xx) = yx + xx := by rw [IntKind.wrap_i64]; omega
          have HWr := Lib.hid hwr
          clear hwr
          have HWS := Lib.hid (after_store yo (yx + xx) hr12 hBw hbs hOw hne)
          have p0 : W.cell? ⟨b, 0, none⟩ = some (.int .i64 (on : Int)) := rowOf_cell hr12 0
          have p1 : W.cell? ⟨b, 1, none⟩ = some (.int .i64 xx) := rowOf_cell hr12 1
          have q0 := rowOf_frozen hr12 0
          have q1 := rowOf_frozen hr12 1
          clear hr12 hBw hOw hne hbs hg1w
          go_cut [65] from 50 to 65 (fun v wx => v = .agg #[.int .i64 yo, .int .i64 (yx + xx)] ∧ Below w2.heap.size w2 wx ∧ RP.Own w2.heap.size wx u10 (cmbP (Y.take k) X) ∧ wx.cell? ⟨b, 0, none⟩ = some (.int .i64 yo) ∧ wx.cell? ⟨b, 1, none⟩ = some (.int .i64 (yx + xx)))
          case first =>
            go_still_tail 16, (by kernel_rfl)
            go_wp2_with fail
            go_meet
            rw [HWr.out]
            exact ⟨rfl, HWS.out.1.drew, HWS.out.2.1, HWS.out.2.2.1, HWS.out.2.2.2⟩
          case rest =>
            obtain ⟨rfl, hB5, hO5, z0, z1⟩ := hcut
            have HB5 := Lib.hid hB5; have HO5 := Lib.hid hO5
            clear hB5 hO5 HWS y0 y1 p0 p1 q0 q1
            go_wp2_with (at_builtin; refine RowKind.Own.push (R := RP) (y := ⟨yo, yx + xx⟩) HO5.out HB5.out HB5.out.size rfl _ _ rfl rfl _ rfl hlk (Nat.le_refl _) ?_; intro v6 w6 hO6 hB6 hz6)
            go_roundg (n - (k + 1))
            case measure => omega
            case rel =>
              refine ⟨k + 1, by omega, by omega, by go_num, hB6, ?_⟩
              show RP.Own _ _ _ _
              rw [HQ2.out]
              exact hO6
        · have hoi : ¬ xo ≥ 0 := ho
          rw [if_neg ho] at hq
          have HQ2 := Lib.hid hq
          clear hq hrow hrow2 hstep hbd hcd hxo
          have HB5 := Lib.hid (HB.out.alloc HB.out.size (.cells #[.int .i64 xo, .int .i64 xx] 86))
          have HO5 := Lib.hid (HO.out.alloc (.cells #[.int .i64 xo, .int .i64 xx] 86))
          go_wp2_with (at_builtin; refine RowKind.Own.push (R := RP) (y := ⟨xo, xx⟩) HO5.out HB5.out HB5.out.size rfl _ _ rfl rfl _ (by show Value.slice (some ⟨wr.heap.size + 1, 0, none⟩) 1 1 = _; rw [World.size_alloc]) hlk (Nat.le_refl _) ?_; intro v6 w6 hO6 hB6 hz6)
          go_roundg (n - (k + 1))
          case measure => omega
          case rel =>
            refine ⟨k + 1, by omega, by omega, by go_num, hB6, ?_⟩
            show RP.Own _ _ _ _
            rw [HQ2.out]
            exact hO6
      · have hlz : ¬ (k : Int) < (n : Int) := by omega
        obtain rfl : k = n := by omega
        have ho := HO.out
        rw [HFull.out] at ho
        have HI := Lib.hid ho.is
        have N_r := rowOf_below HR.out HB.out hlr'
        have p_0 : wr.cell? ⟨w.heap.size, 0, none⟩ = some (.int .i64 f) := (HB.out.cell (p := ⟨w.heap.size, 0, none⟩) hlp').trans HP0.out
        clear ho hrow hrow2 hstep hbd hcd HO
        go_wp2_with fail
        refine (HOf.out _ _ HI.out).mono ?_
        rintro e w3 ⟨rfl, hb3⟩
        replace N_r := rowOf_below N_r hb3 (rowOf_lt N_r)
        have HB3 := Lib.hid (HB2.out.trans ((HB.out.trans (hb3.mono HB.out.size)).mono HB2.out.size))
        clear hb3 HI HOf p_0
        have N_s : rowOf (setRow w3 (w.heap.size + 1 + 1) #[.int .i64 G0, .int .i64 G1, .int .i64 G2, .int .i64 G3, .int .i64 G4, .int .i64 G5, .int .i64 G6, .int .i64 G7, .int .i64 G8, .int .i64 G9, .int .i64 G10]) (w.heap.size + 1 + 1) = some #[.int .i64 G0, .int .i64 G1, .int .i64 G2, .int .i64 G3, .int .i64 G4, .int .i64 G5, .int .i64 G6, .int .i64 G7, .int .i64 G8, .int .i64 G9, .int .i64 G10] := rowOf_setRow_same _ _ (by rw [N_r]; rfl)
        go_wp2_with fail
        rw [← HQ.out]
        exact bodyPost_ret (v := .tuple #[.agg #[.int .i64 G0, .int .i64 G1, .int .i64 G2, .int .i64 G3, .int .i64 G4, .int .i64 G5, .int .i64 G6, .int .i64 G7, .int .i64 G8, .int .i64 G9, .int .i64 G10], .bool ok]) (by simp [results, Try.results19, go_sem, N_r, N_s]) rfl ⟨rfl, below_setRow HB3.out _ _ (by omega)⟩
  · have hlb : ((X.length : Int) != g) = true := by simpa using hg
    obtain ⟨rfl, e⟩ := HNo.out (.inr (.inr hg))
    unfold HV.zero at e
    simp only [HV.mk.injEq] at e
    obtain ⟨rfl, rfl, rfl, rfl, rfl, rfl, rfl, rfl, rfl, rfl, rfl⟩ := e
    clear HNo HYes HXP HYP HN1 HN2 HXB HYB HX HY
    generalize X.length = m at *
    generalize Y.length = n at *
    have N_s : rowOf (setRow w2 (w.heap.size + 1 + 1) #[.int .i64 0, .int .i64 0, .int .i64 0, .int .i64 0, .int .i64 0, .int .i64 0, .int .i64 0, .int .i64 0, .int .i64 0, .int .i64 0, .int .i64 0]) (w.heap.size + 1 + 1) = some #[.int .i64 0, .int .i64 0, .int .i64 0, .int .i64 0, .int .i64 0, .int .i64 0, .int .i64 0, .int .i64 0, .int .i64 0, .int .i64 0, .int .i64 0] := rowOf_setRow_same _ _ (by rw [N_r]; rfl)
    go_wp2_with fail
    rw [← HQ.out]
    exact bodyPost_ret (v := .tuple #[.agg #[.int .i64 0, .int .i64 0, .int .i64 0, .int .i64 0, .int .i64 0, .int .i64 0, .int .i64 0, .int .i64 0, .int .i64 0, .int .i64 0, .int .i64 0], .bool false]) (by simp [results, Try.results19, go_sem, N_r, N_s]) rfl ⟨rfl, below_setRow HB2.out _ _ (by omega)⟩
end Go.Proofs.Ytacmdkbmakfdkaa
