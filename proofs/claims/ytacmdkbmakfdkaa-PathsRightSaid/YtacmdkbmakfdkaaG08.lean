/- the document's Le on steps, by their parts: the walk -/
import Derived.Test.YtacmdkbmakfdkaaG07
import Derived.Test.YtacmdkbmakfdkaaG04
import Derived.Test.YtacmdkbmakfdkaaG03
import Derived.Test.YtacmdkbmakfdkaaG06
namespace Go.Proofs.Ytacmdkbmakfdkaa
open Go.RowKit
set_option linter.unusedVariables false
set_option linter.unusedSimpArgs false
attribute [local go_sem ↓] loadH loadT storeH storeT
attribute [local simp] size_setRow
attribute [local go_sem] rowAt_head rowOf_alloc_at rowOf_alloc_past rowOf_drew rowOf_drewN rowOf_setRow_same rowOf_setRow_other rowOf_setCell_same rowOf_setCell_other size_setRow setRow_drew setRow_alloc_at setRow_alloc_past one_int one_bool cell_setRow_same cell_setRow_other frozen_setRow_same frozen_setRow_other

theorem atP {w : World} {b off : Nat} {xs : List PV} (h : RP.Row w b off xs) (j : Nat) (hj : j < xs.length) :
    w.cell? ⟨b, off + j * 2, none⟩ = some (.int .i64 xs[j]!.o) ∧ w.cell? ⟨b, off + j * 2 + 1, none⟩ = some (.int .i64 xs[j]!.x) :=
  ⟨h j hj 0 _ rfl, h j hj 1 _ rfl⟩
theorem drop_consP {xs : List PV} {k : Nat} (h : k < xs.length) : xs.drop k = xs[k]! :: xs.drop (k + 1) := by
  rw [getElem!_pos xs k h]
  exact List.drop_eq_getElem_cons h
theorem partsP_len (h : HV) : (partsP h).length ≤ 8 := by
  unfold partsP keptP tailP
  simp only [List.length_append, List.length_take, List.length_cons, List.length_nil]
  omega
theorem partsP_num {h : HV} (r : h.rightB = true) : ((partsP h).length : Int) = h.k + h.t ∧ 1 ≤ (partsP h).length ∧ (partsP h).length ≤ 4 := by
  have q : h.right := of_decide_eq_true r
  obtain ⟨⟨s1, s2, s3, s4, s5, s6⟩, g1, g2, _⟩ := q
  unfold partsP keptP tailP
  simp only [List.length_append, List.length_take, List.length_cons, List.length_nil]
  omega
def leL : List PV → List PV → Bool
  | x :: xs, y :: ys => (!((decide (0 ≤ x.o) && decide (y.o < 0)) || decide (y.x < x.x))) && leL xs ys
  | _, _ => true
def rleB (a b : HV) : Bool := a.rightB && b.rightB && decide (a.f = b.f) && decide ((partsP a).length = (partsP b).length) && leL (partsP a) (partsP b)

set_option maxRecDepth 100000 in
set_option maxHeartbeats 8000000 in
theorem rle_any (a b : HV) (w : World) : Calls Try.prog 47 #[a.val, b.val] w (Ret (.bool (rleB a b)) w) := by
  have hPA := fun W => parts_any a W
  have hPB := fun W => parts_any b W
  unfold PartsR at hPA hPB
  have hr1 : a.rightB = false → rleB a b = false := fun h => by unfold rleB; rw [h]; rfl
  have hr2 : b.rightB = false → rleB a b = false := fun h => by unfold rleB; rw [h]; cases a.rightB <;> rfl
  have hr3 : a.rightB = true → b.rightB = true → ¬ a.f = b.f → rleB a b = false := fun h1 h2 h => by unfold rleB; rw [h1, h2, decide_eq_false h]; rfl
  have hX : a.rightB = true → (if a.rightB = true then partsP a else []) = partsP a := fun h => if_pos h
  have hY : b.rightB = true → (if b.rightB = true then partsP b else []) = partsP b := fun h => if_pos h
  have hr4 : a.rightB = true → b.rightB = true → a.f = b.f → ¬ (if a.rightB = true then partsP a else []).length = (if b.rightB = true then partsP b else []).length → rleB a b = false := fun h1 h2 h3 h => by
    rw [hX h1, hY h2] at h
    unfold rleB; rw [h1, h2, decide_eq_true h3, decide_eq_false h]; rfl
  have hr5 : a.rightB = true → b.rightB = true → a.f = b.f → (if a.rightB = true then partsP a else []).length = (if b.rightB = true then partsP b else []).length → rleB a b = leL (if a.rightB = true then partsP a else []) (if b.rightB = true then partsP b else []) := fun h1 h2 h3 h => by
    rw [hX h1, hY h2] at h ⊢
    unfold rleB; rw [h1, h2, decide_eq_true h3, decide_eq_true h]; rfl
  have hn0 : a.rightB = true → (if a.rightB = true then partsP a else []).length ≤ 4 ∧ (if a.rightB = true then partsP a else []) ≠ [] := fun h => by
    rw [hX h]; have := partsP_num h; exact ⟨this.2.2, fun e => by rw [e] at this; simp at this⟩
  have hn1 : b.rightB = true → (if b.rightB = true then partsP b else []) ≠ [] := fun h => by
    rw [hY h]; have := partsP_num h; exact fun e => by rw [e] at this; simp at this
  generalize (if a.rightB = true then partsP a else []) = X at *
  generalize (if b.rightB = true then partsP b else []) = Y at *
  generalize rleB a b = res at *
  generalize a.rightB = ra at *
  generalize b.rightB = rb at *
  obtain ⟨f, k, t, a0, a1, a2, a3, b0, b1, b2, b3⟩ := a
  obtain ⟨g, l, u, d0, d1, d2, d3, e0, e1, e2, e3⟩ := b
  replace hr3 : ra = true → rb = true → ¬ f = g → res = false := hr3
  replace hr4 : ra = true → rb = true → f = g → ¬ X.length = Y.length → res = false := hr4
  replace hr5 : ra = true → rb = true → f = g → X.length = Y.length → res = leL X Y := hr5
  have HPA := Lib.hid hPA; have HPB := Lib.hid hPB
  have HR1 := Lib.hid hr1; have HR2 := Lib.hid hr2; have HR3 := Lib.hid hr3; have HR4 := Lib.hid hr4; have HR5 := Lib.hid hr5; have HN0 := Lib.hid hn0; have HN1 := Lib.hid hn1
  clear hPA hPB hr1 hr2 hr3 hr4 hr5 hX hY hn0 hn1
  have hb0 := ((Below.refl w.heap.size w).alloc (Nat.le_refl _) (.cells #[.int .i64 f, .int .i64 k, .int .i64 t, .int .i64 a0, .int .i64 a1, .int .i64 a2, .int .i64 a3, .int .i64 b0, .int .i64 b1, .int .i64 b2, .int .i64 b3] 46)).alloc (by simp) (.cells #[.int .i64 g, .int .i64 l, .int .i64 u, .int .i64 d0, .int .i64 d1, .int .i64 d2, .int .i64 d3, .int .i64 e0, .int .i64 e1, .int .i64 e2, .int .i64 e3] 46)
  have HB0 := Lib.hid hb0
  clear hb0
  go_enter Try.func47, Try.ntmps47
  go_wp2_with fail
  refine (HPA.out _).mono ?_
  rintro e w1 ⟨v1, rfl, hO1, hb1⟩
  have N_p : rowOf w1 w.heap.size = some #[.int .i64 f, .int .i64 k, .int .i64 t, .int .i64 a0, .int .i64 a1, .int .i64 a2, .int .i64 a3, .int .i64 b0, .int .i64 b1, .int .i64 b2, .int .i64 b3] := rowOf_below (by rw [rowOf_alloc_past _ _ (by simp)]; exact rowOf_alloc_at _ _ _ rfl) hb1 (by simp; omega)
  have N_q : rowOf w1 (w.heap.size + 1) = some #[.int .i64 g, .int .i64 l, .int .i64 u, .int .i64 d0, .int .i64 d1, .int .i64 d2, .int .i64 d3, .int .i64 e0, .int .i64 e1, .int .i64 e2, .int .i64 e3] := rowOf_below (rowOf_alloc_at _ _ _ (by simp)) hb1 (by simp)
  have HB1 := Lib.hid (HB0.out.trans (hb1.mono HB0.out.size))
  have HO1 := Lib.hid hO1.is
  clear hb1 hO1 HB0
  go_wp2_with fail
  refine (HPB.out _).mono ?_
  rintro e w2 ⟨v2, rfl, hO2, hb2⟩
  have hlp := rowOf_lt N_p
  have hlq := rowOf_lt N_q
  replace N_p := rowOf_below N_p hb2 hlp
  replace N_q := rowOf_below N_q hb2 hlq
  have HB2 := Lib.hid (HB1.out.trans (hb2.mono HB1.out.size))
  have HX := Lib.hid (HO1.out.below hb2)
  have HY := Lib.hid hO2.is
  have p_0 : w2.cell? ⟨w.heap.size, 0, none⟩ = some (.int .i64 f) := rowOf_cell N_p 0
  have q_0 : w2.cell? ⟨w.heap.size + 1, 0, none⟩ = some (.int .i64 g) := rowOf_cell N_q 0
  clear hb2 hO2 HO1 HB1 HPA HPB N_p N_q hlp hlq
  obtain ⟨p1, c1, rfl⟩ := HX.out.slice
  obtain ⟨p2, c2, rfl⟩ := HY.out.slice
  cases ra
  · have hb : res = false := HR1.out rfl
    clear HR1 HR2 HR3 HR4 HR5 HN0 HN1
    subst hb
    go_wp2
    go_returns
    exact ⟨rfl, HB2.out⟩
  cases rb
  · have hb : res = false := HR2.out rfl
    clear HR1 HR2 HR3 HR4 HR5 HN0 HN1
    subst hb
    go_wp2
    go_returns
    exact ⟨rfl, HB2.out⟩
  by_cases hf : f = g
  · have hfb : (f != g) = false := by simp [hf]
    by_cases hl : X.length = Y.length
    · have HRes := Lib.hid (HR5.out rfl rfl hf hl)
      obtain ⟨hx4, hxn⟩ := HN0.out rfl
      have hyn := HN1.out rfl
      clear HR1 HR2 HR3 HR4 HR5 HN0 HN1 hf
      rcases HX.out with ⟨e, _⟩ | ⟨_, g1, o1, cc1, e1, hg1, hr1⟩
      · exact absurd e hxn
      rcases HY.out with ⟨e, _⟩ | ⟨_, g2, o2, cc2, e2, hg2, hr2⟩
      · exact absurd e hyn
      simp only [Value.slice.injEq] at e1 e2
      obtain ⟨rfl, _, rfl⟩ := e1
      obtain ⟨rfl, _, rfl⟩ := e2
      have hrow : Hid (∀ (W : World), Below w2.heap.size w2 W → ∀ j, j < X.length → _) := fun W hW j hj => atP (hr1.below hW hg1) j hj
      have hrow2 : Hid (∀ (W : World), Below w2.heap.size w2 W → ∀ j, j < Y.length → _) := fun W hW j hj => atP (hr2.below hW hg2) j hj
      have hstep : Hid (∀ j, j < X.length → leL (X.drop j) (Y.drop j) = ((!((decide (0 ≤ X[j]!.o) && decide (Y[j]!.o < 0)) || decide (Y[j]!.x < X[j]!.x))) && leL (X.drop (j + 1)) (Y.drop (j + 1)))) := fun j hj => by rw [drop_consP hj, drop_consP (xs := Y) (by omega)]; rfl
      have hend : leL (X.drop X.length) (Y.drop X.length) = true := by rw [List.drop_length]; rfl
      have HEnd := Lib.hid hend
      clear hr1 hr2 HX HY hend hxn hyn
      rw [← hl]
      have HL := Lib.hid hl
      clear hl
      have hlb : ∀ n : Nat, ((n : Int) != (n : Int)) = false := fun n => by simp
      have hst : leL (X.drop 0) (Y.drop 0) = leL X Y := rfl
      have HSt := Lib.hid hst
      clear hst
      generalize leL X Y = r0 at *
      generalize hn : X.length = n at *
      have HN := Lib.hid hn
      clear hn
      have hnn := hlb n
      clear hlb
      go_wp2
      go_loopg [9] n (fun gg i wr => ∃ k : Nat, k ≤ n ∧ n - k ≤ gg ∧ i = .int .i64 k ∧ Hid (Below w2.heap.size w2 wr) ∧ Hid (leL (X.drop k) (Y.drop k) = r0))
      case atStart => exact ⟨0, Nat.zero_le _, by omega, rfl, (Below.refl _ _), HSt.out⟩
      case round =>
        obtain ⟨k, hkn, hg, rfl, HB, HC⟩ := hrel
        by_cases hlt : k < n
        · have hlz : (k : Int) < (n : Int) := by omega
          have hc := fun m => hrow.out (wr.drewN m) (below_drewN HB.out m) k hlt
          have hc2 := fun m => hrow2.out (wr.drewN m) (below_drewN HB.out m) k (by rw [← HL.out]; exact hlt)
          have hq := HC.out
          rw [hstep.out k hlt] at hq
          generalize X[k]! = x at hc hq
          generalize Y[k]! = y at hc2 hq
          obtain ⟨xo, xx⟩ := x
          obtain ⟨yo, yx⟩ := y
          have f0 := fun m => (hc m).1; have f1 := fun m => (hc m).2
          have h0 := fun m => (hc2 m).1; have h1 := fun m => (hc2 m).2
          simp only at f0 f1 h0 h1 hq
          clear hc hc2 hrow hrow2 hstep HC
          have HBd := fun m => below_drewN HB.out m
          by_cases cx : 0 ≤ xo
          · have dx : decide (xo ≥ 0) = true := decide_eq_true cx
            by_cases cy : yo < 0
            · have dy : decide (yo < 0) = true := decide_eq_true cy
              have HQ : Hid (r0 = false) := by show _ = _; rw [← hq, decide_eq_true cx, decide_eq_true cy]; rfl
              clear hq
              go_wp2_with fail
              go_quiet (fail)
              go_wp2
              go_returns
              exact ⟨ret_bool (by rw [HRes.out]; exact HQ.out.symm), HB2.out.trans ((HBd _).mono HB2.out.size)⟩
            · have dy : decide (yo < 0) = false := decide_eq_false cy
              by_cases cz : yx < xx
              · have dz : decide (xx > yx) = true := decide_eq_true cz
                have HQ : Hid (r0 = false) := by show _ = _; rw [← hq, decide_eq_true cx, decide_eq_false cy, decide_eq_true cz]; rfl
                clear hq
                go_wp2_with fail
                go_quiet (fail)
                go_wp2
                go_returns
                exact ⟨ret_bool (by rw [HRes.out]; exact HQ.out.symm), HB2.out.trans ((HBd _).mono HB2.out.size)⟩
              · have dz : decide (xx > yx) = false := decide_eq_false cz
                have HQ : Hid (leL (X.drop (k + 1)) (Y.drop (k + 1)) = r0) := by show _ = _; rw [← hq, decide_eq_true cx, decide_eq_false cy, decide_eq_false cz]; rfl
                clear hq
                go_wp2_with fail
                go_quiet (fail)
                go_wp2
                go_roundg (n - (k + 1))
                case measure => omega
                case rel => exact ⟨k + 1, by omega, by omega, by go_num, HBd _, HQ.out⟩
          · have dx : decide (xo ≥ 0) = false := decide_eq_false cx
            by_cases cz : yx < xx
            · have dz : decide (xx > yx) = true := decide_eq_true cz
              have HQ : Hid (r0 = false) := by show _ = _; rw [← hq, decide_eq_false cx, decide_eq_true cz]; rfl
              clear hq
              go_wp2_with fail
              go_quiet (fail)
              go_wp2
              go_returns
              exact ⟨ret_bool (by rw [HRes.out]; exact HQ.out.symm), HB2.out.trans ((HBd _).mono HB2.out.size)⟩
            · have dz : decide (xx > yx) = false := decide_eq_false cz
              have HQ : Hid (leL (X.drop (k + 1)) (Y.drop (k + 1)) = r0) := by show _ = _; rw [← hq, decide_eq_false cx, decide_eq_false cz]; rfl
              clear hq
              go_wp2_with fail
              go_quiet (fail)
              go_wp2
              go_roundg (n - (k + 1))
              case measure => omega
              case rel => exact ⟨k + 1, by omega, by omega, by go_num, HBd _, HQ.out⟩
        · have hlz : ¬ (k : Int) < (n : Int) := by omega
          have : k = n := by omega
          subst this
          have HQ : Hid (r0 = true) := by show _ = _; rw [← HC.out]; exact HEnd.out
          clear HC hrow hrow2 hstep
          go_wp2
          go_returns
          exact ⟨ret_bool (by rw [HRes.out]; exact HQ.out.symm), HB2.out.trans (HB.out.mono HB2.out.size)⟩
    · have hb : res = false := HR4.out rfl rfl hf hl
      clear HR1 HR2 HR3 HR4 HR5 HN0 HN1 HX HY
      subst hb
      generalize X.length = n at *
      generalize Y.length = m at *
      have hlb : ((n : Int) != (m : Int)) = true := by simp; omega
      go_wp2
      go_returns
      exact ⟨rfl, HB2.out⟩
  · have hfb : (f != g) = true := by simpa using hf
    have hb : res = false := HR3.out rfl rfl hf
    clear HR1 HR2 HR3 HR4 HR5 HN0 HN1
    subst hb
    go_wp2
    go_returns
    exact ⟨rfl, HB2.out⟩
end Go.Proofs.Ytacmdkbmakfdkaa
/- plain facts of the parts of a step -/
namespace Go.Proofs.Ytacmdkbmakfdkaa
open Go.RowKit
set_option linter.unusedVariables false
set_option linter.unusedSimpArgs false

theorem min40 : (min (4 : Int) 0).toNat = 0 := rfl
theorem min41 : (min (4 : Int) 1).toNat = 1 := rfl
theorem min42 : (min (4 : Int) 2).toNat = 2 := rfl
theorem min43 : (min (4 : Int) 3).toNat = 3 := rfl
theorem min44 : (min (4 : Int) 4).toNat = 4 := rfl
theorem parts_ok {h : HV} (r : h.rightB = true) : ∀ p ∈ partsP h, (0 ≤ p.x ∧ p.x ≤ 1048576) ∧ -1 ≤ p.o ∧ p.o < h.k ∨ (0 ≤ p.x ∧ p.x ≤ 1048576) ∧ p.o = -1 := by
  have q : h.right := of_decide_eq_true r
  obtain ⟨f, k, t, a0, a1, a2, a3, b0, b1, b2, b3⟩ := h
  obtain ⟨⟨s1, s2, s3, s4, s5, s6⟩, g1, g2, hA, hB⟩ := q
  simp only [fitsP] at s1 s2 s3 s4 s5 s6 g1 g2 hA hB
  clear r
  have hk : k = 0 ∨ k = 1 ∨ k = 2 ∨ k = 3 ∨ k = 4 := by omega
  have hu : t = 0 ∨ t = 1 ∨ t = 2 ∨ t = 3 ∨ t = 4 := by omega
  rcases hk with rfl | rfl | rfl | rfl | rfl <;> rcases hu with rfl | rfl | rfl | rfl | rfl
  all_goals first | (exfalso; omega) | skip
  all_goals
    simp only [partsP, keptP, tailP, min40, min41, min42, min43, min44, List.take_zero, List.take_succ_cons, List.cons_append, List.nil_append, List.forall_mem_cons]
    repeat' constructor
    all_goals first | omega | (intro p hp; simp at hp)
end Go.Proofs.Ytacmdkbmakfdkaa
/- plain facts: the document's Le, by parts, is leH -/
namespace Go.Proofs.Ytacmdkbmakfdkaa
open Go.RowKit
set_option linter.unusedVariables false
set_option linter.unusedSimpArgs false

theorem nlt (x y : Int) : decide (x < y) = !decide (y ≤ x) := by
  by_cases h : x < y
  · rw [decide_eq_true h, decide_eq_false (by omega)]; rfl
  · rw [decide_eq_false h, decide_eq_true (by omega)]; rfl
theorem rleB_is (a b : HV) : rleB a b = leH a b := by
  unfold rleB leH
  cases ha : a.rightB
  · rfl
  cases hb : b.rightB
  · simp
  have na := partsP_num ha
  have nb := partsP_num hb
  by_cases hf : a.f = b.f
  · have hfb : (a.f == b.f) = true := by simpa using hf
    rw [decide_eq_true hf, hfb]
    by_cases hl : (partsP a).length = (partsP b).length
    · have hlb : (a.k + a.t == b.k + b.t) = true := by simp; omega
      rw [decide_eq_true hl, hlb]
      simp only [Bool.true_and]
      have qa : a.right := of_decide_eq_true ha
      have qb : b.right := of_decide_eq_true hb
      obtain ⟨f, k, t, a0, a1, a2, a3, b0, b1, b2, b3⟩ := a
      obtain ⟨g, l, u, d0, d1, d2, d3, e0, e1, e2, e3⟩ := b
      obtain ⟨⟨s1, s2, s3, s4, s5, s6⟩, g1, g2, _, _⟩ := qa
      obtain ⟨⟨r1, r2, r3, r4, r5, r6⟩, h1, h2, _, _⟩ := qb
      simp only at s1 s2 s3 s4 s5 s6 g1 g2 r1 r2 r3 r4 r5 r6 h1 h2 na nb
      clear ha hb hfb hlb
      have hkt : k + t = l + u := by omega
      clear na nb hl hf
      have hk : k = 0 ∨ k = 1 ∨ k = 2 ∨ k = 3 ∨ k = 4 := by omega
      have hu : t = 0 ∨ t = 1 ∨ t = 2 ∨ t = 3 ∨ t = 4 := by omega
      have hkl : l = 0 ∨ l = 1 ∨ l = 2 ∨ l = 3 ∨ l = 4 := by omega
      have huu : u = k + t - l := by omega
      subst huu
      rcases hk with rfl | rfl | rfl | rfl | rfl <;> rcases hu with rfl | rfl | rfl | rfl | rfl
      all_goals first | (exfalso; omega) | skip
      all_goals
        rcases hkl with rfl | rfl | rfl | rfl | rfl
        all_goals first | (exfalso; omega) | skip
        all_goals
          simp [partsP, keptP, tailP, leL, leC, HV.at, HV.add, HV.tl, min40, min41, min42, min43, min44, nlt]
    · have hlb : (a.k + a.t == b.k + b.t) = false := by simp; omega
      rw [decide_eq_false hl, hlb]
      rfl
  · have hfb : (a.f == b.f) = false := by simpa using hf
    rw [decide_eq_false hf, hfb]
    rfl
end Go.Proofs.Ytacmdkbmakfdkaa
/- numbers of 64 bits; instructions (NV), rows of them (RC) -/
namespace Go.Proofs.Ytacmdkbmakfdkaa
open Go.RowKit
set_option linter.unusedVariables false
set_option linter.unusedSimpArgs false

/-- it has room in 64 bits -/
def inR (x : Int) : Prop := -9223372036854775808 ≤ x ∧ x ≤ 9223372036854775807
instance (x : Int) : Decidable (inR x) := by unfold inR; infer_instance
structure NV where
  op : Int
  n : Int
instance : Inhabited NV := ⟨⟨0, 0⟩⟩
def NV.enc (x : NV) : List Value := [.int .i64 x.op, .int .i64 x.n]
abbrev NV.val (x : NV) : Value := .agg #[.int .i64 x.op, .int .i64 x.n]
def RC : RowKind NV where
  enc := NV.enc
  k := 2
  k0 := by decide
  len := fun _ => rfl
  one := by
    intro c u hu
    simp [NV.enc] at hu
    rcases hu with rfl | rfl <;> rfl
  tE := 120
  tS := 49
  zero := .agg #[.int .i64 0, .int .i64 0]
  bytes := 16
  info := by kernel_rfl
  under := Try.underlying49
  zlen := rfl
  byt := by decide
theorem atC7 {w : World} {b off : Nat} {xs : List NV} (h : RC.Row w b off xs) (j : Nat) (hj : j < xs.length) :
    w.cell? ⟨b, off + j * 2, none⟩ = some (.int .i64 xs[j]!.op) ∧ w.cell? ⟨b, off + j * 2 + 1, none⟩ = some (.int .i64 xs[j]!.n) :=
  ⟨h j hj 0 _ rfl, h j hj 1 _ rfl⟩
def NV.ok (len : Nat) (x : NV) : Prop := 1 ≤ x.op ∧ x.op ≤ 16 ∧ ((x.op = 14 ∨ x.op = 15) → 0 ≤ x.n ∧ x.n ≤ (len : Int)) ∧ ((x.op ≠ 1 ∧ x.op ≠ 14 ∧ x.op ≠ 15) → x.n = 0)
instance (len : Nat) (x : NV) : Decidable (x.ok len) := by unfold NV.ok; infer_instance
end Go.Proofs.Ytacmdkbmakfdkaa
/- rows of ints -/
namespace Go.Proofs.Ytacmdkbmakfdkaa
open Go.RowKit
set_option linter.unusedVariables false
set_option linter.unusedSimpArgs false

/-- rows of ints -/
def RN : RowKind Int where
  enc := fun x => [.int .i64 x]
  k := 1
  k0 := by decide
  len := fun _ => rfl
  one := by
    intro c u hu
    simp at hu
    subst hu
    rfl
  tE := 3
  tS := 22
  zero := .int .i64 0
  bytes := 8
  info := by kernel_rfl
  under := Try.underlying22
  zlen := rfl
  byt := by decide
theorem atN {w : World} {b off : Nat} {xs : List Int} (h : RN.Row w b off xs) (j : Nat) (hj : j < xs.length) : w.cell? ⟨b, off + j, none⟩ = some (.int .i64 xs[j]!) := by
  have := h j hj 0 _ rfl
  rw [show off + j * RN.k + 0 = off + j from by show off + j * 1 + 0 = _; omega] at this
  exact this
end Go.Proofs.Ytacmdkbmakfdkaa
