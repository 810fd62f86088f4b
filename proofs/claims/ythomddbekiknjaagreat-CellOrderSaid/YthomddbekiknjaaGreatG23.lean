/- the program's together -/
import Derived.Test.YthomddbekiknjaaGreatG22
import Derived.Test.YthomddbekiknjaaGreatG01
import Derived.Shelf.Spec.SlicesGrow
namespace Go.Proofs.YthomddbekiknjaaGreat
open Go.RowKit
set_option linter.unusedVariables false
set_option linter.unusedSimpArgs false

theorem own_rowI {B g n cap : Nat} {w : World} {D : List IV} (h : RI.Own B w (.slice (some ⟨g, 0, none⟩) n cap) D) : RI.Row w g 0 D := by
  intro j hj
  rcases h.is with ⟨e, _⟩ | ⟨_, b, off, cap', e, hb, hr⟩
  · rw [e] at hj; exact absurd hj (Nat.not_lt_zero _)
  · cases e
    exact hr j hj
theorem own_setN {B g n cap : Nat} {w : World} {D : List IV} (h : RI.Own B w (.slice (some ⟨g, 0, none⟩) n cap) D) {i : Nat} (hi : i < D.length) (x : Int) :
    RI.Own B (w.setCell ⟨g, i * 3 + 2, none⟩ (.int .i64 x)) (.slice (some ⟨g, 0, none⟩) n cap) (D.set i ⟨D[i]!.t, x⟩) := by
  obtain ⟨cur, hg, hn, hB, hc, hm, hs, ht⟩ := h.row
  have hr := own_rowI h
  have e0 := (atI hr i hi).1
  have e1 := (atI hr i hi).2.1
  have hro : rowOf w g = some cur := RowKind.Own.rowOf (R := RI) (B := B) (n := n) (cap := cap) (xs := D) hg
  rw [rowOf_cell hro] at e0 e1
  have hfit : i * 3 + 3 ≤ cur.size := by
    rw [hs]
    have : (i + 1) * 3 ≤ cap * 3 := Nat.mul_le_mul_right _ (by omega)
    show _ ≤ cap * 3
    omega
  have e : cur.setIfInBounds (i * 3 + 2) (.int .i64 x) = putFrom cur (i * RI.k) (RI.enc ⟨D[i]!.t, x⟩) := by
    show _ = putFrom cur (i * 3) [.int .i64 D[i]!.t.k, .int .i64 D[i]!.t.v, .int .i64 x]
    refine Array.ext_getElem? fun t => ?_
    rw [get_putFrom _ _ _ _ hfit, Array.getElem?_setIfInBounds]
    by_cases h2 : i * 3 + 2 = t
    · subst h2
      rw [if_pos rfl, if_pos (by omega), if_pos ⟨by omega, by simp⟩]
      rw [show i * 3 + 2 - i * 3 = 2 by omega]
      rfl
    · rw [if_neg h2]
      by_cases h0 : t = i * 3
      · subst h0
        rw [if_pos ⟨by omega, by simp⟩, Nat.sub_self]
        simpa using e0
      · by_cases h1 : t = i * 3 + 1
        · subst h1
          rw [if_pos ⟨by omega, by simp⟩, show i * 3 + 1 - i * 3 = 1 by omega]
          simpa using e1
        · rw [if_neg]
          intro q
          simp at q
          omega
  rw [setCell_row hro, e]
  exact h.setAt hi ⟨D[i]!.t, x⟩ hg
set_option maxRecDepth 100000 in
set_option maxHeartbeats 8000000 in
theorem ptogether_row (B g n cap : Nat) (l : List IV) (w : World) (hown : RI.Own B w (.slice (some ⟨g, 0, none⟩) n cap) l) (hB : B ≤ w.heap.size) (hlen : l.length ≤ 65536) (hp : ∀ c ∈ l, 0 < c.n) (hm : manyO l ≤ 65536) :
    Calls Tryz.prog 63 #[.slice (some ⟨g, 0, none⟩) n cap] w (fun e w' => ∃ v', e = .returned v' ∧ RI.Own B w' v' (togO l) ∧ Below B w w') := by
  have HS := Lib.hid (isort_own B _ l w hown hB (by omega))
  have hn : n = l.length := by obtain ⟨_, _, h, _⟩ := hown.row; exact h
  have HE : Hid (∀ ys : List IV, ys.Perm l → (ys.Pairwise fun x y => y.t.lt x.t = false) → (ys.foldl togStep [] = togO l ∧ ys.length = n) ∧ (∀ k, ∀ x ∈ (ys.take k).foldl togStep [], 0 < x.n ∧ x.n ≤ 65536) ∧ ∀ x ∈ ys, 0 < x.n ∧ x.n ≤ 65536) := fun ys h1 h2 => by
    have hpy : ∀ c ∈ ys, 0 < c.n := fun c hc => hp c (h1.mem_iff.1 hc)
    have hmy : manyO ys ≤ 65536 := by rw [manyO_perm h1]; exact hm
    refine ⟨⟨tog_eq h1 h2 hp hm, by rw [hn]; exact h1.length_eq⟩, fun k x hx => ?_, fun x hx => ⟨hpy x hx, ?_⟩⟩
    · have t := (tog_fold (ys.take k) [] 0 ⟨fun _ h => by simp at h, List.Pairwise.nil, fun _ h => by simp at h⟩ (h2.sublist (List.take_sublist _ _)) (fun c hc => hpy c (List.mem_of_mem_take hc)) (Int.le_refl _)).1.pos x hx
      have e : manyO ys = manyO (ys.take k) + manyO (ys.drop k) := by rw [← manyO_append, List.take_append_drop]
      have := manyO_pos fun c (hc : c ∈ ys.drop k) => hpy c (List.mem_of_mem_drop hc)
      omega
    · have a := atS_le_many hpy x.t
      have : x.n ≤ atS ys x.t := by
        clear a h1 h2 hmy
        induction ys with
        | nil => simp at hx
        | cons c ys ih =>
          rw [atS_cons]
          rcases List.mem_cons.1 hx with rfl | hx
          · rw [if_pos rfl]
            have := (atS_le_many (fun d hd => hpy d (by simp [hd])) x.t (l := ys)).1
            omega
          · have := ih (fun d hd => hpy d (by simp [hd])) hx
            have := hpy c (by simp)
            split <;> omega
      omega
  have HBw := Lib.hid hB
  have hnl : n ≤ 65536 := by omega
  clear hown hlen hp hm hn
  generalize togO l = res at *
  go_enter Tryz.func63, Tryz.ntmps63
  go_wp2_with fail
  refine (HS.out).mono ?_
  rintro e w1 ⟨rfl, ys, hy, hsd, hO1, hb1⟩
  have q := HE.out ys hy hsd
  have HF := Lib.hid q.1.1
  have hlen : ys.length = n := q.1.2
  have HN := Lib.hid q.2
  have HO1 := Lib.hid hO1
  have HB1 := Lib.hid hb1
  clear HS HE hy hsd hO1 hb1 q
  have hcap : n ≤ cap := by
    obtain ⟨_, _, h, _, h2, _⟩ := HO1.out.row
    omega
  go_wp2
  go_loopg [3, 13] n (fun gg bv i wr => ∃ (k m : Nat) (D acc : List IV), k ≤ n ∧ n - k ≤ gg ∧ i = .int .i64 k ∧ bv = .slice (some ⟨g, 0, none⟩) m cap ∧ Hid ((ys.take k).foldl togStep [] = acc ∧ acc.length = m ∧ m ≤ k ∧ D.length = n ∧ D.take m = acc ∧ ∀ j, k ≤ j → j < n → D[j]! = ys[j]!) ∧ Hid (RI.Own B wr (.slice (some ⟨g, 0, none⟩) n cap) D) ∧ Hid (Below B w wr))
  case atStart => exact ⟨0, 0, ys, [], Nat.zero_le _, by omega, rfl, rfl, ⟨by rw [List.take_zero]; rfl, rfl, Nat.le_refl _, hlen, by rw [List.take_zero], fun _ _ _ => rfl⟩, HO1.out, HB1.out⟩
  case round =>
    obtain ⟨k, m, D, acc, hkn, hg, rfl, rfl, HI, HO, HB⟩ := hrel
    by_cases hlt : k < n
    · have hlz : (k : Int) < (n : Int) := by omega
      have hsz : g < wr.heap.size := by
        obtain ⟨cur, h, _⟩ := HO.out.row
        exact (Array.getElem?_eq_some_iff.1 h).1
      have hr := own_rowI HO.out
      have hDl : D.length = n := HI.out.2.2.2.1
      have hD : D[k]! = ys[k]! := HI.out.2.2.2.2.2 k (Nat.le_refl _) hlt
      have hc := atI hr k (by omega)
      have HNk := Lib.hid (And.intro (HN.out.1 k) (HN.out.2 _ (getA_mem (xs := ys) (k := k) (by omega))))
      have HS1 : Hid ((ys.take (k + 1)).foldl togStep [] = togStep acc ys[k]!) := by
        have := foldl_take_succ (xs := ys) (k := k) (by omega)
        rw [HI.out.1] at this
        exact this
      have HJ : Hid (∀ j, k + 1 ≤ j → j < n → D[j]! = ys[j]!) := fun j h1 h2 => HI.out.2.2.2.2.2 j (by omega) h2
      rw [hD] at hc
      obtain ⟨e0, e1, e2⟩ := hc
      rw [Nat.zero_add] at e0 e1 e2
      have hmk : m ≤ k := HI.out.2.2.1
      have hal : acc.length = m := HI.out.2.1
      have hta : D.take m = acc := HI.out.2.2.2.2.1
      rw [HI.out.1] at HNk
      clear HI HF HN HO1 HB1 hD
      generalize ys[k]! = c at *
      obtain ⟨t, cn⟩ := c
      simp only at e0 e1 e2
      cases m with
      | zero =>
        have HR : Hid ((ys.take (k + 1)).foldl togStep [] = acc ++ [⟨t, cn⟩]) := by
          rw [HS1.out]
          unfold togStep
          rw [if_neg (fun q => by have := q.1; omega)]
          exact rfl
        have HT : Hid ((D.set (0) ⟨t, cn⟩).take (0 + 1) = acc ++ [⟨t, cn⟩]) := by
          rw [take_getA _ _ (by rw [List.length_set]; omega), getElem!_pos _ _ (by rw [List.length_set]; omega), List.getElem_set_self, List.take_set_of_le (Nat.le_refl _), hta]
          exact rfl
        have HJ2 : Hid (∀ j, k + 1 ≤ j → j < n → (D.set (0) ⟨t, cn⟩)[j]! = ys[j]!) := fun j h1 h2 => by
          rw [← HJ.out j h1 h2, getElem!_pos _ _ (by rw [List.length_set]; omega), List.getElem_set_ne (by omega)]
          exact (getElem!_pos _ _ (by omega)).symm
        have hBg : B ≤ g := by
          obtain ⟨_, _, _, h, _⟩ := HO.out.row
          exact h
        have HAL : Hid (acc.length = 0 ∧ D.length = n) := ⟨hal, hDl⟩
        have HO3 : Hid (RI.Own B (((wr.alloc (.cells #[.int .i64 t.k, .int .i64 t.v, .int .i64 cn] 57)).alloc (.cells #[.int .i64 t.k, .int .i64 t.v, .int .i64 cn] 57)).drew) (.slice (some ⟨g, 0, none⟩) n cap) D) := ((HO.out.alloc _).alloc _).drew
        have HB3 : Hid (Below B w (((wr.alloc (.cells #[.int .i64 t.k, .int .i64 t.v, .int .i64 cn] 57)).alloc (.cells #[.int .i64 t.k, .int .i64 t.v, .int .i64 cn] 57)).drew)) := ((HB.out.alloc (by have := HB.out.size; omega) _).alloc (by have := HB.out.size; simp; omega) _).drew
        have HAp : Hid (RI.App (((wr.alloc (.cells #[.int .i64 t.k, .int .i64 t.v, .int .i64 cn] 57)).alloc (.cells #[.int .i64 t.k, .int .i64 t.v, .int .i64 cn] 57)).drew) (.slice (some ⟨wr.heap.size + 1, 0, none⟩) 1 1) [⟨t, cn⟩]) := by
          have h := RowKind.Row.app (R := RI) (c := 1) (ys := [⟨t, cn⟩]) (RowKind.Row.new (R := RI) (wr.alloc (.cells #[.int .i64 t.k, .int .i64 t.v, .int .i64 cn] 57)) ⟨t, cn⟩ 57)
          rw [World.size_alloc] at h
          exact h
        have HBg : Hid (B ≤ g ∧ B ≤ (((wr.alloc (.cells #[.int .i64 t.k, .int .i64 t.v, .int .i64 cn] 57)).alloc (.cells #[.int .i64 t.k, .int .i64 t.v, .int .i64 cn] 57)).drew).heap.size) := ⟨hBg, by have := HB.out.size; simp; omega⟩
        have HM : Hid (0 < n) := show _ < _ by omega
        clear HS1 HJ HNk
        go_wp2
        go_region
        all_goals (go_wp2_with (at_builtin; refine RowKind.Own.appendIn (R := RI) (y := ⟨t, cn⟩) rfl _ _ rfl HO3.out HM.out rfl rfl HAp.out ?_; intro w2 hO2 hg2))
        have HB2 := Lib.hid (HB3.out.grown hg2 HBg.out.2 (fun q e => by cases e; exact HBg.out.1))
        have HO2' := Lib.hid hO2
        clear hg2 hO2 HO3 HB3 HAp
        go_wp2
        go_roundg (n - (k + 1))
        case measure => omega
        case rel => exact ⟨k + 1, 0 + 1, D.set (0) ⟨t, cn⟩, acc ++ [⟨t, cn⟩], by omega, by omega, by go_num, rfl, ⟨HR.out, by rw [List.length_append, HAL.out.1]; rfl, by omega, by rw [List.length_set]; exact HAL.out.2, HT.out, HJ2.out⟩, HO2'.out, HB2.out⟩
      | succ m =>
        have hlast : acc[m]! = D[m]! := by
          rw [← hta, getElem!_pos _ _ (by rw [List.length_take]; omega), List.getElem_take, getElem!_pos _ _ (by omega)]
        have hq := atI hr m (by omega)
        rw [Nat.zero_add] at hq
        obtain ⟨f0, f1, f2⟩ := hq
        have hln : 0 < D[m]!.n ∧ D[m]!.n ≤ 65536 := by
          rw [← hlast]
          exact HNk.out.1 _ (getA_mem (by omega))
        have HO2 : Hid (∀ W x, RI.Own B W (.slice (some ⟨g, 0, none⟩) n cap) D → RI.Own B (W.setCell ⟨g, m * 3 + 2, none⟩ (.int .i64 x)) (.slice (some ⟨g, 0, none⟩) n cap) (D.set m ⟨D[m]!.t, x⟩)) := fun W x h => own_setN h (by omega) x
        have hfz : wr.frozen? ⟨g, m * 3 + 2, none⟩ = false := by
          obtain ⟨cur, h, _⟩ := HO.out.row
          exact rowOf_frozen (RowKind.Own.rowOf (R := RI) (B := B) (n := n) (cap := cap) (xs := D) h) _
        by_cases hx : D[m]!.t = t
        · have hadd : wrap64 (D[m]!.n + cn) = D[m]!.n + cn := wrap_in (by have := HNk.out.2; unfold inR; simp only at this; omega)
          have HR : Hid ((ys.take (k + 1)).foldl togStep [] = acc.set m ⟨t, D[m]!.n + cn⟩) := by
            rw [HS1.out]
            unfold togStep
            rw [if_pos ⟨by omega, by rw [hal, Nat.add_sub_cancel, hlast]; exact hx⟩, hal, Nat.add_sub_cancel, hlast]
            exact rfl
          have HT : Hid ((D.set m ⟨t, D[m]!.n + cn⟩).take (m + 1) = acc.set m ⟨t, D[m]!.n + cn⟩) := by
            rw [← hta, List.take_set]
            exact rfl
          have HJ2 : Hid (∀ j, k + 1 ≤ j → j < n → (D.set m ⟨t, D[m]!.n + cn⟩)[j]! = ys[j]!) := fun j h1 h2 => by
            rw [← HJ.out j h1 h2, getElem!_pos _ _ (by rw [List.length_set]; omega), List.getElem_set_ne (by omega)]
            exact (getElem!_pos _ _ (by omega)).symm
          have HBn := Lib.hid (HB.out.alloc (by have := HB.out.size; omega) (.cells #[.int .i64 t.k, .int .i64 t.v, .int .i64 cn] 57))
          have HOn := Lib.hid (HO.out.alloc (.cells #[.int .i64 t.k, .int .i64 t.v, .int .i64 cn] 57))
          rw [hx] at f0 f1 HO2
          generalize D[m]!.n = ln at *
          have hBg : B ≤ g := by
            obtain ⟨_, _, _, h, _⟩ := HO.out.row
            exact h
          have HOx : Hid (RI.Own B (((wr.setCell ⟨g, m * 3 + 2, none⟩ (.int .i64 (ln + cn))).alloc (.cells #[.int .i64 t.k, .int .i64 t.v, .int .i64 cn] 57)).drew.drew) (.slice (some ⟨g, 0, none⟩) n cap) (D.set m ⟨t, ln + cn⟩)) := (((HO2.out wr (ln + cn) HO.out).alloc _).drew).drew
          have HBx : Hid (Below B w (((wr.setCell ⟨g, m * 3 + 2, none⟩ (.int .i64 (ln + cn))).alloc (.cells #[.int .i64 t.k, .int .i64 t.v, .int .i64 cn] 57)).drew.drew)) := (((HB.out.setCell (p := ⟨g, m * 3 + 2, none⟩) hBg _).alloc (by have := HB.out.size; simp; omega) _).drew).drew
          have HAL : Hid (acc.length = m + 1 ∧ D.length = n) := ⟨hal, hDl⟩
          clear hr hlast hta hal HJ HS1 HNk HO HB hln hx HO2 HBn HOn
          go_wp2
          go_region
          all_goals go_wp2
          all_goals go_region
          all_goals go_wp2
          go_roundg (n - (k + 1))
          case measure => omega
          case rel => exact ⟨k + 1, m + 1, D.set m ⟨t, ln + cn⟩, acc.set m ⟨t, ln + cn⟩, by omega, by omega, by go_num, rfl, ⟨HR.out, by rw [List.length_set]; exact HAL.out.1, by omega, by rw [List.length_set]; exact HAL.out.2, HT.out, HJ2.out⟩, HOx.out, HBx.out⟩
        · have HR : Hid ((ys.take (k + 1)).foldl togStep [] = acc ++ [⟨t, cn⟩]) := by
            rw [HS1.out]
            unfold togStep
            rw [if_neg (fun q => hx (by have := q.2; rw [hal, Nat.add_sub_cancel, hlast] at this; exact this))]
            exact rfl
          have hlx : ¬ (D[m]!.t.k = t.k ∧ D[m]!.t.v = t.v) := fun q => hx (RV.ext2 q.1 q.2)
          generalize D[m]! = lc at *
          obtain ⟨⟨lk, lv⟩, ln⟩ := lc
          simp only at f0 f1 f2 hlx
          have HT : Hid ((D.set (m + 1) ⟨t, cn⟩).take (m + 1 + 1) = acc ++ [⟨t, cn⟩]) := by
            rw [take_getA _ _ (by rw [List.length_set]; omega), getElem!_pos _ _ (by rw [List.length_set]; omega), List.getElem_set_self, List.take_set_of_le (Nat.le_refl _), hta]
            exact rfl
          have HJ2 : Hid (∀ j, k + 1 ≤ j → j < n → (D.set (m + 1) ⟨t, cn⟩)[j]! = ys[j]!) := fun j h1 h2 => by
            rw [← HJ.out j h1 h2, getElem!_pos _ _ (by rw [List.length_set]; omega), List.getElem_set_ne (by omega)]
            exact (getElem!_pos _ _ (by omega)).symm
          have hBg : B ≤ g := by
            obtain ⟨_, _, _, h, _⟩ := HO.out.row
            exact h
          have HAL : Hid (acc.length = m + 1 ∧ D.length = n) := ⟨hal, hDl⟩
          have HO3 : Hid (RI.Own B (((wr.alloc (.cells #[.int .i64 t.k, .int .i64 t.v, .int .i64 cn] 57)).alloc (.cells #[.int .i64 t.k, .int .i64 t.v, .int .i64 cn] 57)).drew) (.slice (some ⟨g, 0, none⟩) n cap) D) := ((HO.out.alloc _).alloc _).drew
          have HB3 : Hid (Below B w (((wr.alloc (.cells #[.int .i64 t.k, .int .i64 t.v, .int .i64 cn] 57)).alloc (.cells #[.int .i64 t.k, .int .i64 t.v, .int .i64 cn] 57)).drew)) := ((HB.out.alloc (by have := HB.out.size; omega) _).alloc (by have := HB.out.size; simp; omega) _).drew
          have HAp : Hid (RI.App (((wr.alloc (.cells #[.int .i64 t.k, .int .i64 t.v, .int .i64 cn] 57)).alloc (.cells #[.int .i64 t.k, .int .i64 t.v, .int .i64 cn] 57)).drew) (.slice (some ⟨wr.heap.size + 1, 0, none⟩) 1 1) [⟨t, cn⟩]) := by
            have h := RowKind.Row.app (R := RI) (c := 1) (ys := [⟨t, cn⟩]) (RowKind.Row.new (R := RI) (wr.alloc (.cells #[.int .i64 t.k, .int .i64 t.v, .int .i64 cn] 57)) ⟨t, cn⟩ 57)
            rw [World.size_alloc] at h
            exact h
          have HBg : Hid (B ≤ g ∧ B ≤ (((wr.alloc (.cells #[.int .i64 t.k, .int .i64 t.v, .int .i64 cn] 57)).alloc (.cells #[.int .i64 t.k, .int .i64 t.v, .int .i64 cn] 57)).drew).heap.size) := ⟨hBg, by have := HB.out.size; simp; omega⟩
          have HM : Hid (m + 1 < n) := show _ < _ by omega
          clear hlast HS1 HJ HNk hln HO2
          by_cases hk1 : lk = t.k
          · subst hk1
            have hv1 : (lv == t.v) = false := by
              have : ¬ lv = t.v := fun e => hlx ⟨rfl, e⟩
              simpa using this
            clear hlx hx
            go_wp2
            go_region
            all_goals (go_wp2_with (at_builtin; refine RowKind.Own.appendIn (R := RI) (y := ⟨t, cn⟩) rfl _ _ rfl HO3.out HM.out rfl rfl HAp.out ?_; intro w2 hO2 hg2))
            have HB2 := Lib.hid (HB3.out.grown hg2 HBg.out.2 (fun q e => by cases e; exact HBg.out.1))
            have HO2' := Lib.hid hO2
            clear hg2 hO2 HO3 HB3 HAp
            go_wp2
            go_roundg (n - (k + 1))
            case measure => omega
            case rel => exact ⟨k + 1, m + 1 + 1, D.set (m + 1) ⟨t, cn⟩, acc ++ [⟨t, cn⟩], by omega, by omega, by go_num, rfl, ⟨HR.out, by rw [List.length_append, HAL.out.1]; rfl, by omega, by rw [List.length_set]; exact HAL.out.2, HT.out, HJ2.out⟩, HO2'.out, HB2.out⟩
          · have hk2 : (lk == t.k) = false := by simpa using hk1
            clear hlx hx hk1
            go_wp2
            go_region
            all_goals (go_wp2_with (at_builtin; refine RowKind.Own.appendIn (R := RI) (y := ⟨t, cn⟩) rfl _ _ rfl HO3.out HM.out rfl rfl HAp.out ?_; intro w2 hO2 hg2))
            have HB2 := Lib.hid (HB3.out.grown hg2 HBg.out.2 (fun q e => by cases e; exact HBg.out.1))
            have HO2' := Lib.hid hO2
            clear hg2 hO2 HO3 HB3 HAp
            go_wp2
            go_roundg (n - (k + 1))
            case measure => omega
            case rel => exact ⟨k + 1, m + 1 + 1, D.set (m + 1) ⟨t, cn⟩, acc ++ [⟨t, cn⟩], by omega, by omega, by go_num, rfl, ⟨HR.out, by rw [List.length_append, HAL.out.1]; rfl, by omega, by rw [List.length_set]; exact HAL.out.2, HT.out, HJ2.out⟩, HO2'.out, HB2.out⟩
    · have hlz : ¬ (k : Int) < (n : Int) := by omega
      have : k = n := by omega
      subst this
      have HX : Hid (RI.Own B wr (.slice (some ⟨g, 0, none⟩) m cap) res) := by
        obtain ⟨h1, h2, h3, h4, h5, _⟩ := HI.out
        rw [List.take_of_length_le (by omega), HF.out] at h1
        rw [h1, ← h5]
        exact RowKind.Own.part HO.out m h3
      clear HI HF HN HO1 HB1 HO
      go_wp2
      go_returns
      exact ⟨_, rfl, HX.out, HB.out⟩
set_option maxRecDepth 100000 in
set_option maxHeartbeats 8000000 in
theorem ptogether_any (B : Nat) (l : List IV) (v : Value) (w : World) (hown : RI.Own B w v l) (hB : B ≤ w.heap.size) (hlen : l.length ≤ 65536) (hp : ∀ c ∈ l, 0 < c.n) (hm : manyO l ≤ 65536) :
    Calls Tryz.prog 63 #[v] w (fun e w' => ∃ v', e = .returned v' ∧ RI.Own B w' v' (togO l) ∧ Below B w w') := by
  have h2 := hown.2
  rcases h2 with ⟨rfl, h0⟩ | ⟨g, cap, cur, rfl, _⟩
  · obtain rfl : l = [] := List.length_eq_zero_iff.1 h0
    have HS := Lib.hid (isort_own B _ [] w hown hB (by simp))
    have HX : Hid (∀ W, RI.Own B W (.slice none 0 0) (togO [])) := fun W => RowKind.Own.nil RI _ _
    clear hown hp hm hlen h0
    go_enter Tryz.func63, Tryz.ntmps63
    go_wp2_with fail
    refine (HS.out).mono ?_
    rintro e w1 ⟨rfl, ys, hy, hsd, hO1, hb1⟩
    have HB1 := Lib.hid hb1
    clear HS hy hsd hO1 hb1
    go_wp2
    refine wp_loop_rounds 1 ?_
    rw [rounds_succ]
    go_wp2
    go_returns
    exact ⟨_, rfl, HX.out _, HB1.out⟩
  · exact ptogether_row B g l.length cap l w hown hB hlen hp hm
end Go.Proofs.YthomddbekiknjaaGreat
namespace Go.Proofs.YthomddbekiknjaaGreat
open Go.RowKit Go.Shelf
set_option linter.unusedVariables false
set_option linter.unusedSimpArgs false

/- the library's Grow, laid at rows of items -/
def growLI_ren : Go.Shelf.Ren := ⟨fun | 4 => 85 | n => n, fun | 22 => 37 | 25 => 57 | 3 => 3 | 4 => 4 | 9 => 9 | 20 => 20 | 0 => 0 | n => n, fun | n => n⟩
theorem growLI : Go.Proofs.Lays8.n4 Tryz.prog growLI_ren where
  mixed := by kernel_rfl
  f4 := ⟨ "slices.Grow[[]backwash/api.Item,backwash/api.Item]", by decide, Tryz.func85.trans (congrArg some (by kernel_rfl))⟩
  t0 := Tryz.underlying0
  a0 := Tryz.isAgg0
  z0 := Tryz.sizeOf0
  v0 := Tryz.zeroValue0
  t3 := Tryz.underlying3
  a3 := Tryz.isAgg3
  z3 := Tryz.sizeOf3
  v3 := Tryz.zeroValue3
  t4 := Tryz.underlying4
  a4 := Tryz.isAgg4
  z4 := Tryz.sizeOf4
  v4 := Tryz.zeroValue4
  t9 := Tryz.underlying9
  a9 := Tryz.isAgg9
  z9 := Tryz.sizeOf9
  v9 := Tryz.zeroValue9
  t20 := Tryz.underlying20
  a20 := Tryz.isAgg20
  z20 := Tryz.sizeOf20
  v20 := Tryz.zeroValue20
  t22 := Tryz.underlying37
  a22 := Tryz.isAgg37
  z22 := Tryz.sizeOf37
  v22 := Tryz.zeroValue37

theorem infoI : (Tryz.prog.info? 57).map (fun i => (i.zero, i.size, i.bytes)) = some (some (.agg #[.int .i64 0, .int .i64 0, .int .i64 0]), 3, 24) := RI.info
theorem growI_own (n m : Nat) (hn : n + m ≤ 2000000) (W : World) : Calls Tryz.prog 85 #[.slice none 0 0, .int .i64 ((n : Int) + (m : Int))] W (fun e w' => ∃ v, e = .returned v ∧ RI.Own W.heap.size w' v [] ∧ Below W.heap.size W w') := by
  rw [show ((n : Int) + (m : Int)) = ((n + m : Nat) : Int) by omega]
  by_cases h0 : n + m = 0
  · rw [h0]
    refine (Any8.slices_Grow_room growLI none 0 0 0 W (by decide) (by decide) (by decide) (by decide)).mono ?_
    rintro e w' ⟨rfl, rfl⟩
    exact ⟨_, rfl, RowKind.Own.nil RI _ _, Below.refl _ _⟩
  · obtain ⟨i0, hi, hz0, hz1, hz2⟩ := info_parts infoI
    refine (Any8.slices_Grow_grow growLI i0 (.agg #[.int .i64 0, .int .i64 0, .int .i64 0]) hi hz0 (by omega) none 0 0 (n + m) [] W (Nat.le_refl _) (by omega) (by rw [hz2]; omega) (by omega) (by simp) (fun _ => rfl) (fun a h => by cases h)).mono ?_
    rintro e w' ⟨rfl, rfl⟩
    have hge := grownCap_ge W (0 + (n + m)) 0 57
    have hle := grownCap_le_maxLen W (0 + (n + m)) 0 57 (by unfold maxLen; omega)
    have ht : growLI_ren.t 25 = 57 := rfl
    rw [ht]
    generalize grownCap W (0 + (n + m)) 0 57 = c at hge hle ⊢
    generalize hcs : ([].toArray ++ Builtin.zeroCells (Value.agg #[.int .i64 0, .int .i64 0, .int .i64 0]).cells (0 + (n + m) - 0) ++ Builtin.zeroCells (Value.agg #[.int .i64 0, .int .i64 0, .int .i64 0]).cells (c - (0 + (n + m)))) = cs
    have hsz : cs.size = c * 3 := by
      rw [← hcs]
      simp [size_zeroCells, Value.cells]
      omega
    refine ⟨_, rfl, ⟨rfl, .inr ⟨W.heap.size, c, cs, rfl, Nat.le_refl _, ?_, Nat.zero_le _, hle, hsz, rfl⟩⟩, ?_⟩
    · exact heap_alloc_new W.drew _
    · exact (Below.refl _ W).drew.alloc (Nat.le_refl _) _
end Go.Proofs.YthomddbekiknjaaGreat
/- the library's Concat of two rows of items -/
namespace Go.Proofs.YthomddbekiknjaaGreat
open Go.RowKit
set_option linter.unusedVariables false
set_option linter.unusedSimpArgs false

set_option maxRecDepth 100000 in
set_option maxHeartbeats 8000000 in
theorem concatI2_any (xs ys : List IV) (va vb : Value) (g : Nat) (w : World) (hlen : xs.length + ys.length ≤ 900000) (ha : RI.Is w va xs) (hb : RI.Is w vb ys)
    (g0 : w.cell? ⟨g, 0, none⟩ = some va) (g1 : w.cell? ⟨g, 1, none⟩ = some vb) (hg : g < w.heap.size) :
    Calls Tryz.prog 72 #[.slice (some ⟨g, 0, none⟩) 2 2] w (RI.Made (xs ++ ys) w) := by
  obtain ⟨p, c, rfl⟩ := ha.slice
  obtain ⟨q, d, rfl⟩ := hb.slice
  have HG : Hid (∀ W, Calls Tryz.prog 85 #[.slice none 0 0, .int .i64 ((xs.length : Int) + (ys.length : Int))] W (fun e w' => ∃ v, e = .returned v ∧ RI.Own W.heap.size w' v [] ∧ Below W.heap.size W w')) := fun W => growI_own xs.length ys.length (by omega) W
  have HA := Lib.hid ha; have HB := Lib.hid hb
  clear ha hb
  generalize hn : xs.length = n at *
  generalize hk : ys.length = m at *
  have HL1 : Hid (([] : List IV).length + xs.length ≤ 1000000) := by show _ ≤ _; rw [hn]; simp; omega
  have HL2 : Hid ((([] : List IV) ++ xs).length + ys.length ≤ 1000000) := by show _ ≤ _; rw [List.nil_append, hn, hk]; omega
  have HN := Lib.hid hn; have HK := Lib.hid hk
  clear hn hk
  have hne : ¬ ((n : Int) + (m : Int) < 0) := by omega
  go_enter Tryz.func72, Tryz.ntmps72
  go_wp2
  refine wp_loop_rounds 3 ?_
  rw [rounds_succ]
  go_wp2
  rw [rounds_succ]
  go_wp2
  rw [rounds_succ]
  go_wp2_with fail
  refine (HG.out _).mono ?_
  rintro ee w1 ⟨u, rfl, hO, hB⟩
  have h0 : w1.cell? ⟨g, 0, none⟩ = some (.slice p n c) := by rw [hB.cell (p := ⟨g, 0, none⟩) hg]; exact g0
  have h1 : w1.cell? ⟨g, 1, none⟩ = some (.slice q m d) := by rw [hB.cell (p := ⟨g, 1, none⟩) hg]; exact g1
  have HO := Lib.hid hO; have HB1 := Lib.hid hB
  have HZ := Lib.hid hB.size
  clear g0 g1 hO hB
  go_wp2
  refine wp_loop_rounds 3 ?_
  rw [rounds_succ]
  go_wp2_with (at_builtin; refine RowKind.Own.appendAny (R := RI) (ys := xs) HO.out HB1.out HZ.out rfl _ _ rfl rfl rfl (HA.out.below HB1.out) HL1.out ?_; intro v2 w2 hO2 hB2 hz2)
  have k1 : w2.cell? ⟨g, 1, none⟩ = some (.slice q m d) := by rw [hB2.cell (p := ⟨g, 1, none⟩) hg, ← HB1.out.cell (p := ⟨g, 1, none⟩) hg]; exact h1
  have HO2 := Lib.hid hO2; have HB2 := Lib.hid hB2
  have HZ2 := Lib.hid hB2.size
  clear h0 h1 hO2 hB2
  rw [rounds_succ]
  go_wp2_with (at_builtin; refine RowKind.Own.appendAny (R := RI) (ys := ys) HO2.out HB2.out HZ2.out rfl _ _ rfl rfl rfl (HB.out.below HB2.out) HL2.out ?_; intro v3 w3 hO3 hB3 hz3)
  have HO3 := Lib.hid hO3; have HB3 := Lib.hid hB3
  clear hO3 hB3 k1
  rw [rounds_succ]
  go_wp2
  go_returns
  exact ⟨_, rfl, HO3.out, HB3.out⟩
end Go.Proofs.YthomddbekiknjaaGreat
