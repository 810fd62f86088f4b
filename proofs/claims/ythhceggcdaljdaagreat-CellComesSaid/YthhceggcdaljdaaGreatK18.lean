/- plain: items in their order, put together where they are of the same record -/
import Derived.Test.YthhceggcdaljdaaGreatK17
import Derived.Test.YthhceggcdaljdaaGreatG14
namespace Go.Proofs.YthhceggcdaljdaaGreat
open Go.RowKit
set_option linter.unusedVariables false
set_option linter.unusedSimpArgs false

theorem atS_perm {f g : List IV} (h : f.Perm g) (u : RV) : atS f u = atS g u := by
  induction h with
  | nil => rfl
  | cons c _ ih => rw [atS_cons, atS_cons, ih]
  | swap c d l => rw [atS_cons, atS_cons, atS_cons, atS_cons]; omega
  | trans _ _ h1 h2 => rw [h1, h2]
theorem manyO_perm {f g : List IV} (h : f.Perm g) : manyO f = manyO g := by
  induction h with
  | nil => rfl
  | cons c _ ih => rw [manyO_cons, manyO_cons, ih]
  | swap c d l => rw [manyO_cons, manyO_cons, manyO_cons, manyO_cons]; omega
  | trans _ _ h1 h2 => rw [h1, h2]
/-- one item more -/
def togStep (acc : List IV) (c : IV) : List IV :=
  if 0 < acc.length ∧ acc[acc.length - 1]!.t = c.t then acc.set (acc.length - 1) ⟨c.t, acc[acc.length - 1]!.n + c.n⟩ else acc ++ [c]
theorem togStep_nil (c : IV) : togStep [] c = [c] := rfl
theorem togStep_last (i : List IV) (l c : IV) : togStep (i ++ [l]) c = if l.t = c.t then i ++ [⟨c.t, l.n + c.n⟩] else i ++ [l] ++ [c] := by
  have hl : (i ++ [l]).length - 1 = i.length := by simp
  have hg : (i ++ [l])[i.length]! = l := by
    rw [getElem!_pos _ _ (by simp)]
    simp
  unfold togStep
  rw [hl, hg]
  by_cases h : l.t = c.t
  · rw [if_pos ⟨by simp, h⟩, if_pos h]
    simp
  · rw [if_neg (fun q => h q.2), if_neg h]
theorem togStep_len (acc : List IV) (c : IV) : (togStep acc c).length ≤ acc.length + 1 := by
  unfold togStep
  split <;> simp
structure TogI (acc : List IV) (S : Int) (ys : List IV) : Prop where
  pos : ∀ c ∈ acc, 0 < c.n ∧ c.n ≤ S
  up : acc.Pairwise fun a b => a.t.lt b.t = true
  low : ∀ c ∈ acc, ∀ d ∈ ys, d.t.lt c.t = false
theorem TogI.step {acc : List IV} {S : Int} {c : IV} {ys : List IV} (h : TogI acc S (c :: ys)) (hs : (c :: ys).Pairwise fun x y => y.t.lt x.t = false) (hc : 0 < c.n) (hS : 0 ≤ S) :
    TogI (togStep acc c) (S + c.n) ys ∧ ∀ u, atS (togStep acc c) u = atS acc u + (if c.t = u then c.n else 0) := by
  obtain ⟨hp, hu, hl⟩ := h
  have hs1 := (List.pairwise_cons.1 hs).1
  have new : TogI (acc ++ [c]) (S + c.n) ys ↔ (∀ x ∈ acc, x.t.lt c.t = true) := by
    constructor
    · intro q x hx
      exact (List.pairwise_append.1 q.up).2.2 x hx c (by simp)
    · intro q
      refine ⟨fun x hx => ?_, List.pairwise_append.2 ⟨hu, by simp, fun x hx y hy => by rw [List.mem_singleton.1 hy]; exact q x hx⟩, fun x hx d hd => ?_⟩
      · rcases List.mem_append.1 hx with hx | hx
        · have := hp x hx; omega
        · rw [List.mem_singleton.1 hx]; omega
      · rcases List.mem_append.1 hx with hx | hx
        · exact hl x hx d (by simp [hd])
        · rw [List.mem_singleton.1 hx]; exact hs1 d hd
  rcases List.eq_nil_or_concat acc with rfl | ⟨i, l, rfl⟩
  · rw [togStep_nil]
    exact ⟨new.2 fun x hx => by simp at hx, fun u => by rw [atS_cons, atS_nil]; omega⟩
  · rw [List.concat_eq_append] at *
    rw [togStep_last]
    have hi := List.pairwise_append.1 hu
    by_cases he : l.t = c.t
    · rw [if_pos he]
      refine ⟨⟨fun x hx => ?_, List.pairwise_append.2 ⟨hi.1, by simp, fun x hx y hy => ?_⟩, fun x hx d hd => ?_⟩, fun u => ?_⟩
      · rcases List.mem_append.1 hx with hx | hx
        · have := hp x (List.mem_append.2 (.inl hx)); omega
        · rw [List.mem_singleton.1 hx]
          have := hp l (by simp)
          show 0 < l.n + c.n ∧ l.n + c.n ≤ S + c.n
          omega
      · rw [List.mem_singleton.1 hy]
        show x.t.lt c.t = true
        rw [← he]
        exact hi.2.2 x hx l (by simp)
      · rcases List.mem_append.1 hx with hx | hx
        · exact hl x (List.mem_append.2 (.inl hx)) d (by simp [hd])
        · rw [List.mem_singleton.1 hx]; exact hs1 d hd
      · rw [atS_append, atS_append, atS_cons, atS_cons, atS_nil]
        show _ + ((if c.t = u then l.n + c.n else 0) + 0) = _
        rw [he]
        split <;> omega
    · rw [if_neg he]
      have hlc : l.t.lt c.t = true := by
        have h1 := hl l (by simp) c (by simp)
        cases h2 : l.t.lt c.t
        · exact absurd (RV.tri h2 h1) he
        · rfl
      refine ⟨new.2 fun x hx => ?_, fun u => ?_⟩
      · rcases List.mem_append.1 hx with hx | hx
        · exact RV.lt_trans (hi.2.2 x hx l (by simp)) hlc
        · rw [List.mem_singleton.1 hx]; exact hlc
      · rw [atS_append (i ++ [l]) [c], atS_cons, atS_nil]; omega
theorem tog_fold : ∀ (ys acc : List IV) (S : Int), TogI acc S ys → ys.Pairwise (fun x y => y.t.lt x.t = false) → (∀ c ∈ ys, 0 < c.n) → 0 ≤ S →
    TogI (ys.foldl togStep acc) (S + manyO ys) [] ∧ ∀ u, atS (ys.foldl togStep acc) u = atS acc u + atS ys u
  | [], acc, S, h, _, _, _ => ⟨by rw [show manyO [] = 0 from rfl, Int.add_zero]; exact h, fun u => by rw [atS_nil]; exact (Int.add_zero _).symm⟩
  | c :: ys, acc, S, h, hs, hp, hS => by
    have hc := hp c (by simp)
    have st := h.step hs hc hS
    have ih := tog_fold ys _ _ st.1 (List.pairwise_cons.1 hs).2 (fun d hd => hp d (by simp [hd])) (by omega)
    rw [List.foldl_cons, manyO_cons]
    refine ⟨by rw [← Int.add_assoc]; exact ih.1, fun u => ?_⟩
    rw [ih.2, st.2, atS_cons]; omega
/-- items in their order, put together: a bag with as many of each record -/
theorem tog_eq {l ys : List IV} (hy : ys.Perm l) (hs : ys.Pairwise fun x y => y.t.lt x.t = false) (hp : ∀ c ∈ l, 0 < c.n) (hm : manyO l ≤ 65536) : ys.foldl togStep [] = togO l := by
  have hpy : ∀ c ∈ ys, 0 < c.n := fun c hc => hp c (hy.mem_iff.1 hc)
  have q := tog_fold ys [] 0 ⟨fun _ h => by simp at h, List.Pairwise.nil, fun _ h => by simp at h⟩ hs hpy (Int.le_refl _)
  have g := togO_is hp hm
  have hmy : manyO ys ≤ 65536 := by rw [manyO_perm hy]; exact hm
  refine good_ext ⟨fun c hc => (IV.ok_iff c).2 ?_, q.1.up⟩ g.1 fun u => ?_
  · have := q.1.pos c hc
    omega
  · rw [q.2, g.2.1, atS_nil, atS_perm hy]; omega
theorem foldl_take_succ {xs : List IV} {k : Nat} (hk : k < xs.length) : (xs.take (k + 1)).foldl togStep [] = togStep ((xs.take k).foldl togStep []) xs[k]! := by
  rw [take_getA xs k hk, List.foldl_append]
  rfl
theorem foldl_len : ∀ (ys acc : List IV), (ys.foldl togStep acc).length ≤ acc.length + ys.length
  | [], acc => by simp
  | c :: ys, acc => by
    have := foldl_len ys (togStep acc c)
    have := togStep_len acc c
    rw [List.foldl_cons, List.length_cons]
    omega
end Go.Proofs.YthhceggcdaljdaaGreat
/- the program's together -/
namespace Go.Proofs.YthhceggcdaljdaaGreat
open Go.RowKit
set_option linter.unusedVariables false
set_option linter.unusedSimpArgs false

theorem own_rowI {B g n cap : Nat} {w : World} {D : List IV} (h : RI.Own B w (.slice (some ⟨g, 0, none⟩) n cap) D) : RI.Row w g 0 D := by
  intro j hj
  rcases h.is with ⟨e, _⟩ | ⟨_, b, off, cap', e, hb, hr⟩
  · rw [e] at hj; exact absurd hj (Nat.not_lt_zero _)
  · cases e
    exact hr j hj
theorem own_setN {B g n cap : Nat} {w : World} {D : List IV} (h : RI.Own B w (.slice (some ⟨g, 0, none⟩) n cap) D) {i : Nat} (hi : i < D.length) (x : Int) :
    RI.Own B (w.setCell ⟨g, i * 3 + 2, none⟩ (.int .i64 x)) (.slice (some ⟨g, 0, none⟩) n cap) (D.set i ⟨D[i]!.t, x⟩) := by
  obtain ⟨cur, hg, hn, hB, hc, hm, hs, ht⟩ := h.row
  have hr := own_rowI h
  have e0 := (atI hr i hi).1
  have e1 := (atI hr i hi).2.1
  have hro : rowOf w g = some cur := RowKind.Own.rowOf (R := RI) (B := B) (n := n) (cap := cap) (xs := D) hg
  rw [rowOf_cell hro] at e0 e1
  have hfit : i * 3 + 3 ≤ cur.size := by
    rw [hs]
    have : (i + 1) * 3 ≤ cap * 3 := Nat.mul_le_mul_right _ (by omega)
    show _ ≤ cap * 3
    omega
  have e : cur.setIfInBounds (i * 3 + 2) (.int .i64 x) = putFrom cur (i * RI.k) (RI.enc ⟨D[i]!.t, x⟩) := by
    show _ = putFrom cur (i * 3) [.int .i64 D[i]!.t.k, .int .i64 D[i]!.t.v, .int .i64 x]
    refine Array.ext_getElem? fun t => ?_
    rw [get_putFrom _ _ _ _ hfit, Array.getElem?_setIfInBounds]
    by_cases h2 : i * 3 + 2 = t
    · subst h2
      rw [if_pos rfl, if_pos (by omega), if_pos ⟨by omega, by simp⟩]
      rw [show i * 3 + 2 - i * 3 = 2 by omega]
      rfl
    · rw [if_neg h2]
      by_cases h0 : t = i * 3
      · subst h0
        rw [if_pos ⟨by omega, by simp⟩, Nat.sub_self]
        simpa using e0
      · by_cases h1 : t = i * 3 + 1
        · subst h1
          rw [if_pos ⟨by omega, by simp⟩, show i * 3 + 1 - i * 3 = 1 by omega]
          simpa using e1
        · rw [if_neg]
          intro q
          simp at q
          omega
  rw [setCell_row hro, e]
  exact h.setAt hi ⟨D[i]!.t, x⟩ hg
set_option maxRecDepth 100000 in
set_option maxHeartbeats 8000000 in
theorem ptogether_row (B g n cap : Nat) (l : List IV) (w : World) (hown : RI.Own B w (.slice (some ⟨g, 0, none⟩) n cap) l) (hB : B ≤ w.heap.size) (hlen : l.length ≤ 65536) (hp : ∀ c ∈ l, 0 < c.n) (hm : manyO l ≤ 65536) :
    Calls Tryz.prog 101 #[.slice (some ⟨g, 0, none⟩) n cap] w (fun e w' => ∃ v', e = .returned v' ∧ RI.Own B w' v' (togO l) ∧ Below B w w') := by
  have HS := Lib.hid (isort_own B _ l w hown hB (by omega))
  have hn : n = l.length := by obtain ⟨_, _, h, _⟩ := hown.row; exact h
  have HE : Hid (∀ ys : List IV, ys.Perm l → (ys.Pairwise fun x y => y.t.lt x.t = false) → (ys.foldl togStep [] = togO l ∧ ys.length = n) ∧ (∀ k, ∀ x ∈ (ys.take k).foldl togStep [], 0 < x.n ∧ x.n ≤ 65536) ∧ ∀ x ∈ ys, 0 < x.n ∧ x.n ≤ 65536) := fun ys h1 h2 => by
    have hpy : ∀ c ∈ ys, 0 < c.n := fun c hc => hp c (h1.mem_iff.1 hc)
    have hmy : manyO ys ≤ 65536 := by rw [manyO_perm h1]; exact hm
    refine ⟨⟨tog_eq h1 h2 hp hm, by rw [hn]; exact h1.length_eq⟩, fun k x hx => ?_, fun x hx => ⟨hpy x hx, ?_⟩⟩
    · have t := (tog_fold (ys.take k) [] 0 ⟨fun _ h => by simp at h, List.Pairwise.nil, fun _ h => by simp at h⟩ (h2.sublist (List.take_sublist _ _)) (fun c hc => hpy c (List.mem_of_mem_take hc)) (Int.le_refl _)).1.pos x hx
      have e : manyO ys = manyO (ys.take k) + manyO (ys.drop k) := by rw [← manyO_append, List.take_append_drop]
      have := manyO_pos fun c (hc : c ∈ ys.drop k) => hpy c (List.mem_of_mem_drop hc)
      omega
    · have a := atS_le_many hpy x.t
      have : x.n ≤ atS ys x.t := by
        clear a h1 h2 hmy
        induction ys with
        | nil => simp at hx
        | cons c ys ih =>
          rw [atS_cons]
          rcases List.mem_cons.1 hx with rfl | hx
          · rw [if_pos rfl]
            have := (atS_le_many (fun d hd => hpy d (by simp [hd])) x.t (l := ys)).1
            omega
          · have := ih (fun d hd => hpy d (by simp [hd])) hx
            have := hpy c (by simp)
            split <;> omega
      omega
  have HBw := Lib.hid hB
  have hnl : n ≤ 65536 := by omega
  clear hown hlen hp hm hn
  generalize togO l = res at *
  go_enter Tryz.func101, Tryz.ntmps101
  go_wp2_with fail
  refine (HS.out).mono ?_
  rintro e w1 ⟨rfl, ys, hy, hsd, hO1, hb1⟩
  have q := HE.out ys hy hsd
  have HF := Lib.hid q.1.1
  have hlen : ys.length = n := q.1.2
  have HN := Lib.hid q.2
  have HO1 := Lib.hid hO1
  have HB1 := Lib.hid hb1
  clear HS HE hy hsd hO1 hb1 q
  have hcap : n ≤ cap := by
    obtain ⟨_, _, h, _, h2, _⟩ := HO1.out.row
    omega
  go_wp2
  go_loopg [3, 13] n (fun gg bv i wr => ∃ (k m : Nat) (D acc : List IV), k ≤ n ∧ n - k ≤ gg ∧ i = .int .i64 k ∧ bv = .slice (some ⟨g, 0, none⟩) m cap ∧ Hid ((ys.take k).foldl togStep [] = acc ∧ acc.length = m ∧ m ≤ k ∧ D.length = n ∧ D.take m = acc ∧ ∀ j, k ≤ j → j < n → D[j]! = ys[j]!) ∧ Hid (RI.Own B wr (.slice (some ⟨g, 0, none⟩) n cap) D) ∧ Hid (Below B w wr))
  case atStart => exact ⟨0, 0, ys, [], Nat.zero_le _, by omega, rfl, rfl, ⟨by rw [List.take_zero]; rfl, rfl, Nat.le_refl _, hlen, by rw [List.take_zero], fun _ _ _ => rfl⟩, HO1.out, HB1.out⟩
  case round =>
    obtain ⟨k, m, D, acc, hkn, hg, rfl, rfl, HI, HO, HB⟩ := hrel
    by_cases hlt : k < n
    · have hlz : (k : Int) < (n : Int) := by omega
      have hsz : g < wr.heap.size := by
        obtain ⟨cur, h, _⟩ := HO.out.row
        exact (Array.getElem?_eq_some_iff.1 h).1
      have hr := own_rowI HO.out
      have hDl : D.length = n := HI.out.2.2.2.1
      have hD : D[k]! = ys[k]! := HI.out.2.2.2.2.2 k (Nat.le_refl _) hlt
      have hc := atI hr k (by omega)
      have HNk := Lib.hid (And.intro (HN.out.1 k) (HN.out.2 _ (getA_mem (xs := ys) (k := k) (by omega))))
      have HS1 : Hid ((ys.take (k + 1)).foldl togStep [] = togStep acc ys[k]!) := by
        have := foldl_take_succ (xs := ys) (k := k) (by omega)
        rw [HI.out.1] at this
        exact this
      have HJ : Hid (∀ j, k + 1 ≤ j → j < n → D[j]! = ys[j]!) := fun j h1 h2 => HI.out.2.2.2.2.2 j (by omega) h2
      rw [hD] at hc
      obtain ⟨e0, e1, e2⟩ := hc
      rw [Nat.zero_add] at e0 e1 e2
      have hmk : m ≤ k := HI.out.2.2.1
      have hal : acc.length = m := HI.out.2.1
      have hta : D.take m = acc := HI.out.2.2.2.2.1
      rw [HI.out.1] at HNk
      clear HI HF HN HO1 HB1 hD
      generalize ys[k]! = c at *
      obtain ⟨t, cn⟩ := c
      simp only at e0 e1 e2
      cases m with
      | zero =>
        have HR : Hid ((ys.take (k + 1)).foldl togStep [] = acc ++ [⟨t, cn⟩]) := by
          rw [HS1.out]
          unfold togStep
          rw [if_neg (fun q => by have := q.1; omega)]
          exact rfl
        have HT : Hid ((D.set (0) ⟨t, cn⟩).take (0 + 1) = acc ++ [⟨t, cn⟩]) := by
          rw [take_getA _ _ (by rw [List.length_set]; omega), getElem!_pos _ _ (by rw [List.length_set]; omega), List.getElem_set_self, List.take_set_of_le (Nat.le_refl _), hta]
          exact rfl
        have HJ2 : Hid (∀ j, k + 1 ≤ j → j < n → (D.set (0) ⟨t, cn⟩)[j]! = ys[j]!) := fun j h1 h2 => by
          rw [← HJ.out j h1 h2, getElem!_pos _ _ (by rw [List.length_set]; omega), List.getElem_set_ne (by omega)]
          exact (getElem!_pos _ _ (by omega)).symm
        have hBg : B ≤ g := by
          obtain ⟨_, _, _, h, _⟩ := HO.out.row
          exact h
        have HAL : Hid (acc.length = 0 ∧ D.length = n) := ⟨hal, hDl⟩
        have HO3 : Hid (RI.Own B (((wr.alloc (.cells #[.int .i64 t.k, .int .i64 t.v, .int .i64 cn] 57)).alloc (.cells #[.int .i64 t.k, .int .i64 t.v, .int .i64 cn] 57)).drew) (.slice (some ⟨g, 0, none⟩) n cap) D) := ((HO.out.alloc _).alloc _).drew
        have HB3 : Hid (Below B w (((wr.alloc (.cells #[.int .i64 t.k, .int .i64 t.v, .int .i64 cn] 57)).alloc (.cells #[.int .i64 t.k, .int .i64 t.v, .int .i64 cn] 57)).drew)) := ((HB.out.alloc (by have := HB.out.size; omega) _).alloc (by have := HB.out.size; simp; omega) _).drew
        have HAp : Hid (RI.App (((wr.alloc (.cells #[.int .i64 t.k, .int .i64 t.v, .int .i64 cn] 57)).alloc (.cells #[.int .i64 t.k, .int .i64 t.v, .int .i64 cn] 57)).drew) (.slice (some ⟨wr.heap.size + 1, 0, none⟩) 1 1) [⟨t, cn⟩]) := by
          have h := RowKind.Row.app (R := RI) (c := 1) (ys := [⟨t, cn⟩]) (RowKind.Row.new (R := RI) (wr.alloc (.cells #[.int .i64 t.k, .int .i64 t.v, .int .i64 cn] 57)) ⟨t, cn⟩ 57)
          rw [World.size_alloc] at h
          exact h
        have HBg : Hid (B ≤ g ∧ B ≤ (((wr.alloc (.cells #[.int .i64 t.k, .int .i64 t.v, .int .i64 cn] 57)).alloc (.cells #[.int .i64 t.k, .int .i64 t.v, .int .i64 cn] 57)).drew).heap.size) := ⟨hBg, by have := HB.out.size; simp; omega⟩
        have HM : Hid (0 < n) := show _ < _ by omega
        clear HS1 HJ HNk
        go_wp2
        go_region
        all_goals (go_wp2_with (at_builtin; refine RowKind.Own.appendIn (R := RI) (y := ⟨t, cn⟩) rfl _ _ rfl HO3.out HM.out rfl rfl HAp.out ?_; intro w2 hO2 hg2))
        have HB2 := Lib.hid (HB3.out.grown hg2 HBg.out.2 (fun q e => by cases e; exact HBg.out.1))
        have HO2' := Lib.hid hO2
        clear hg2 hO2 HO3 HB3 HAp
        go_wp2
        go_roundg (n - (k + 1))
        case measure => omega
        case rel => exact ⟨k + 1, 0 + 1, D.set (0) ⟨t, cn⟩, acc ++ [⟨t, cn⟩], by omega, by omega, by go_num, rfl, ⟨HR.out, by rw [List.length_append, HAL.out.1]; rfl, by omega, by rw [List.length_set]; exact HAL.out.2, HT.out, HJ2.out⟩, HO2'.out, HB2.out⟩
      | succ m =>
        have hlast : acc[m]! = D[m]! := by
          rw [← hta, getElem!_pos _ _ (by rw [List.length_take]; omega), List.getElem_take, getElem!_pos _ _ (by omega)]
        have hq := atI hr m (by omega)
        rw [Nat.zero_add] at hq
        obtain ⟨f0, f1, f2⟩ := hq
        have hln : 0 < D[m]!.n ∧ D[m]!.n ≤ 65536 := by
          rw [← hlast]
          exact HNk.out.1 _ (getA_mem (by omega))
        have HO2 : Hid (∀ W x, RI.Own B W (.slice (some ⟨g, 0, none⟩) n cap) D → RI.Own B (W.setCell ⟨g, m * 3 + 2, none⟩ (.int .i64 x)) (.slice (some ⟨g, 0, none⟩) n cap) (D.set m ⟨D[m]!.t, x⟩)) := fun W x h => own_setN h (by omega) x
        have hfz : wr.frozen? ⟨g, m * 3 + 2, none⟩ = false := by
          obtain ⟨cur, h, _⟩ := HO.out.row
          exact rowOf_frozen (RowKind.Own.rowOf (R := RI) (B := B) (n := n) (cap := cap) (xs := D) h) _
        by_cases hx : D[m]!.t = t
        · have hadd : wrap64 (D[m]!.n + cn) = D[m]!.n + cn := wrap_in (by have := HNk.out.2; unfold inR; simp only at this; omega)
          have HR : Hid ((ys.take (k + 1)).foldl togStep [] = acc.set m ⟨t, D[m]!.n + cn⟩) := by
            rw [HS1.out]
            unfold togStep
            rw [if_pos ⟨by omega, by rw [hal, Nat.add_sub_cancel, hlast]; exact hx⟩, hal, Nat.add_sub_cancel, hlast]
            exact rfl
          have HT : Hid ((D.set m ⟨t, D[m]!.n + cn⟩).take (m + 1) = acc.set m ⟨t, D[m]!.n + cn⟩) := by
            rw [← hta, List.take_set]
            exact rfl
          have HJ2 : Hid (∀ j, k + 1 ≤ j → j < n → (D.set m ⟨t, D[m]!.n + cn⟩)[j]! = ys[j]!) := fun j h1 h2 => by
            rw [← HJ.out j h1 h2, getElem!_pos _ _ (by rw [List.length_set]; omega), List.getElem_set_ne (by omega)]
            exact (getElem!_pos _ _ (by omega)).symm
          have HBn := Lib.hid (HB.out.alloc (by have := HB.out.size; omega) (.cells #[.int .i64 t.k, .int .i64 t.v, .int .i64 cn] 57))
          have HOn := Lib.hid (HO.out.alloc (.cells #[.int .i64 t.k, .int .i64 t.v, .int .i64 cn] 57))
          rw [hx] at f0 f1 HO2
          generalize D[m]!.n = ln at *
          have hBg : B ≤ g := by
            obtain ⟨_, _, _, h, _⟩ := HO.out.row
            exact h
          have HOx : Hid (RI.Own B (((wr.setCell ⟨g, m * 3 + 2, none⟩ (.int .i64 (ln + cn))).alloc (.cells #[.int .i64 t.k, .int .i64 t.v, .int .i64 cn] 57)).drew.drew) (.slice (some ⟨g, 0, none⟩) n cap) (D.set m ⟨t, ln + cn⟩)) := (((HO2.out wr (ln + cn) HO.out).alloc _).drew).drew
          have HBx : Hid (Below B w (((wr.setCell ⟨g, m * 3 + 2, none⟩ (.int .i64 (ln + cn))).alloc (.cells #[.int .i64 t.k, .int .i64 t.v, .int .i64 cn] 57)).drew.drew)) := (((HB.out.setCell (p := ⟨g, m * 3 + 2, none⟩) hBg _).alloc (by have := HB.out.size; simp; omega) _).drew).drew
          have HAL : Hid (acc.length = m + 1 ∧ D.length = n) := ⟨hal, hDl⟩
          clear hr hlast hta hal HJ HS1 HNk HO HB hln hx HO2 HBn HOn
          go_wp2
          go_region
          all_goals go_wp2
          all_goals go_region
          all_goals go_wp2
          go_roundg (n - (k + 1))
          case measure => omega
          case rel => exact ⟨k + 1, m + 1, D.set m ⟨t, ln + cn⟩, acc.set m ⟨t, ln + cn⟩, by omega, by omega, by go_num, rfl, ⟨HR.out, by rw [List.length_set]; exact HAL.out.1, by omega, by rw [List.length_set]; exact HAL.out.2, HT.out, HJ2.out⟩, HOx.out, HBx.out⟩
        · have HR : Hid ((ys.take (k + 1)).foldl togStep [] = acc ++ [⟨t, cn⟩]) := by
            rw [HS1.out]
            unfold togStep
            rw [if_neg (fun q => hx (by have := q.2; rw [hal, Nat.add_sub_cancel, hlast] at this; exact this))]
            exact rfl
          have hlx : ¬ (D[m]!.t.k = t.k ∧ D[m]!.t.v = t.v) := fun q => hx (RV.ext2 q.1 q.2)
          generalize D[m]! = lc at *
          obtain ⟨⟨lk, lv⟩, ln⟩ := lc
          simp only at f0 f1 f2 hlx
          have HT : Hid ((D.set (m + 1) ⟨t, cn⟩).take (m + 1 + 1) = acc ++ [⟨t, cn⟩]) := by
            rw [take_getA _ _ (by rw [List.length_set]; omega), getElem!_pos _ _ (by rw [List.length_set]; omega), List.getElem_set_self, List.take_set_of_le (Nat.le_refl _), hta]
            exact rfl
          have HJ2 : Hid (∀ j, k + 1 ≤ j → j < n → (D.set (m + 1) ⟨t, cn⟩)[j]! = ys[j]!) := fun j h1 h2 => by
            rw [← HJ.out j h1 h2, getElem!_pos _ _ (by rw [List.length_set]; omega), List.getElem_set_ne (by omega)]
            exact (getElem!_pos _ _ (by omega)).symm
          have hBg : B ≤ g := by
            obtain ⟨_, _, _, h, _⟩ := HO.out.row
            exact h
          have HAL : Hid (acc.length = m + 1 ∧ D.length = n) := ⟨hal, hDl⟩
          have HO3 : Hid (RI.Own B (((wr.alloc (.cells #[.int .i64 t.k, .int .i64 t.v, .int .i64 cn] 57)).alloc (.cells #[.int .i64 t.k, .int .i64 t.v, .int .i64 cn] 57)).drew) (.slice (some ⟨g, 0, none⟩) n cap) D) := ((HO.out.alloc _).alloc _).drew
          have HB3 : Hid (Below B w (((wr.alloc (.cells #[.int .i64 t.k, .int .i64 t.v, .int .i64 cn] 57)).alloc (.cells #[.int .i64 t.k, .int .i64 t.v, .int .i64 cn] 57)).drew)) := ((HB.out.alloc (by have := HB.out.size; omega) _).alloc (by have := HB.out.size; simp; omega) _).drew
          have HAp : Hid (RI.App (((wr.alloc (.cells #[.int .i64 t.k, .int .i64 t.v, .int .i64 cn] 57)).alloc (.cells #[.int .i64 t.k, .int .i64 t.v, .int .i64 cn] 57)).drew) (.slice (some ⟨wr.heap.size + 1, 0, none⟩) 1 1) [⟨t, cn⟩]) := by
            have h := RowKind.Row.app (R := RI) (c := 1) (ys := [⟨t, cn⟩]) (RowKind.Row.new (R := RI) (wr.alloc (.cells #[.int .i64 t.k, .int .i64 t.v, .int .i64 cn] 57)) ⟨t, cn⟩ 57)
            rw [World.size_alloc] at h
            exact h
          have HBg : Hid (B ≤ g ∧ B ≤ (((wr.alloc (.cells #[.int .i64 t.k, .int .i64 t.v, .int .i64 cn] 57)).alloc (.cells #[.int .i64 t.k, .int .i64 t.v, .int .i64 cn] 57)).drew).heap.size) := ⟨hBg, by have := HB.out.size; simp; omega⟩
          have HM : Hid (m + 1 < n) := show _ < _ by omega
          clear hlast HS1 HJ HNk hln HO2
          by_cases hk1 : lk = t.k
          · subst hk1
            have hv1 : (lv == t.v) = false := by
              have : ¬ lv = t.v := fun e => hlx ⟨rfl, e⟩
              simpa using this
            clear hlx hx
            go_wp2
            go_region
            all_goals (go_wp2_with (at_builtin; refine RowKind.Own.appendIn (R := RI) (y := ⟨t, cn⟩) rfl _ _ rfl HO3.out HM.out rfl rfl HAp.out ?_; intro w2 hO2 hg2))
            have HB2 := Lib.hid (HB3.out.grown hg2 HBg.out.2 (fun q e => by cases e; exact HBg.out.1))
            have HO2' := Lib.hid hO2
            clear hg2 hO2 HO3 HB3 HAp
            go_wp2
            go_roundg (n - (k + 1))
            case measure => omega
            case rel => exact ⟨k + 1, m + 1 + 1, D.set (m + 1) ⟨t, cn⟩, acc ++ [⟨t, cn⟩], by omega, by omega, by go_num, rfl, ⟨HR.out, by rw [List.length_append, HAL.out.1]; rfl, by omega, by rw [List.length_set]; exact HAL.out.2, HT.out, HJ2.out⟩, HO2'.out, HB2.out⟩
          · have hk2 : (lk == t.k) = false := by simpa using hk1
            clear hlx hx hk1
            go_wp2
            go_region
            all_goals (go_wp2_with (at_builtin; refine RowKind.Own.appendIn (R := RI) (y := ⟨t, cn⟩) rfl _ _ rfl HO3.out HM.out rfl rfl HAp.out ?_; intro w2 hO2 hg2))
            have HB2 := Lib.hid (HB3.out.grown hg2 HBg.out.2 (fun q e => by cases e; exact HBg.out.1))
            have HO2' := Lib.hid hO2
            clear hg2 hO2 HO3 HB3 HAp
            go_wp2
            go_roundg (n - (k + 1))
            case measure => omega
            case rel => exact ⟨k + 1, m + 1 + 1, D.set (m + 1) ⟨t, cn⟩, acc ++ [⟨t, cn⟩], by omega, by omega, by go_num, rfl, ⟨HR.out, by rw [List.length_append, HAL.out.1]; rfl, by omega, by rw [List.length_set]; exact HAL.out.2, HT.out, HJ2.out⟩, HO2'.out, HB2.out⟩
    · have hlz : ¬ (k : Int) < (n : Int) := by omega
      have : k = n := by omega
      subst this
      have HX : Hid (RI.Own B wr (.slice (some ⟨g, 0, none⟩) m cap) res) := by
        obtain ⟨h1, h2, h3, h4, h5, _⟩ := HI.out
        rw [List.take_of_length_le (by omega), HF.out] at h1
        rw [h1, ← h5]
        exact RowKind.Own.part HO.out m h3
      clear HI HF HN HO1 HB1 HO
      go_wp2
      go_returns
      exact ⟨_, rfl, HX.out, HB.out⟩
set_option maxRecDepth 100000 in
set_option maxHeartbeats 8000000 in
theorem ptogether_any (B : Nat) (l : List IV) (v : Value) (w : World) (hown : RI.Own B w v l) (hB : B ≤ w.heap.size) (hlen : l.length ≤ 65536) (hp : ∀ c ∈ l, 0 < c.n) (hm : manyO l ≤ 65536) :
    Calls Tryz.prog 101 #[v] w (fun e w' => ∃ v', e = .returned v' ∧ RI.Own B w' v' (togO l) ∧ Below B w w') := by
  have h2 := hown.2
  rcases h2 with ⟨rfl, h0⟩ | ⟨g, cap, cur, rfl, _⟩
  · obtain rfl : l = [] := List.length_eq_zero_iff.1 h0
    have HS := Lib.hid (isort_own B _ [] w hown hB (by simp))
    have HX : Hid (∀ W, RI.Own B W (.slice none 0 0) (togO [])) := fun W => RowKind.Own.nil RI _ _
    clear hown hp hm hlen h0
    go_enter Tryz.func101, Tryz.ntmps101
    go_wp2_with fail
    refine (HS.out).mono ?_
    rintro e w1 ⟨rfl, ys, hy, hsd, hO1, hb1⟩
    have HB1 := Lib.hid hb1
    clear HS hy hsd hO1 hb1
    go_wp2
    refine wp_loop_rounds 1 ?_
    rw [rounds_succ]
    go_wp2
    go_returns
    exact ⟨_, rfl, HX.out _, HB1.out⟩
  · exact ptogether_row B g l.length cap l w hown hB hlen hp hm
end Go.Proofs.YthhceggcdaljdaaGreat
/- the library's Concat of two rows of items -/
namespace Go.Proofs.YthhceggcdaljdaaGreat
open Go.RowKit
set_option linter.unusedVariables false
set_option linter.unusedSimpArgs false

set_option maxRecDepth 100000 in
set_option maxHeartbeats 8000000 in
theorem concatI2_any (xs ys : List IV) (va vb : Value) (g : Nat) (w : World) (hlen : xs.length + ys.length ≤ 900000) (ha : RI.Is w va xs) (hb : RI.Is w vb ys)
    (g0 : w.cell? ⟨g, 0, none⟩ = some va) (g1 : w.cell? ⟨g, 1, none⟩ = some vb) (hg : g < w.heap.size) :
    Calls Tryz.prog 111 #[.slice (some ⟨g, 0, none⟩) 2 2] w (RI.Made (xs ++ ys) w) := by
  obtain ⟨p, c, rfl⟩ := ha.slice
  obtain ⟨q, d, rfl⟩ := hb.slice
  have HG : Hid (∀ W, Calls Tryz.prog 151 #[.slice none 0 0, .int .i64 ((xs.length : Int) + (ys.length : Int))] W (fun e w' => ∃ v, e = .returned v ∧ RI.Own W.heap.size w' v [] ∧ Below W.heap.size W w')) := fun W => growI_own xs.length ys.length (by omega) W
  have HA := Lib.hid ha; have HB := Lib.hid hb
  clear ha hb
  generalize hn : xs.length = n at *
  generalize hk : ys.length = m at *
  have HL1 : Hid (([] : List IV).length + xs.length ≤ 1000000) := by show _ ≤ _; rw [hn]; simp; omega
  have HL2 : Hid ((([] : List IV) ++ xs).length + ys.length ≤ 1000000) := by show _ ≤ _; rw [List.nil_append, hn, hk]; omega
  have HN := Lib.hid hn; have HK := Lib.hid hk
  clear hn hk
  have hne : ¬ ((n : Int) + (m : Int) < 0) := by omega
  go_enter Tryz.func111, Tryz.ntmps111
  go_wp2
  refine wp_loop_rounds 3 ?_
  rw [rounds_succ]
  go_wp2
  rw [rounds_succ]
  go_wp2
  rw [rounds_succ]
  go_wp2_with fail
  refine (HG.out _).mono ?_
  rintro ee w1 ⟨u, rfl, hO, hB⟩
  have h0 : w1.cell? ⟨g, 0, none⟩ = some (.slice p n c) := by rw [hB.cell (p := ⟨g, 0, none⟩) hg]; exact g0
  have h1 : w1.cell? ⟨g, 1, none⟩ = some (.slice q m d) := by rw [hB.cell (p := ⟨g, 1, none⟩) hg]; exact g1
  have HO := Lib.hid hO; have HB1 := Lib.hid hB
  have HZ := Lib.hid hB.size
  clear g0 g1 hO hB
  go_wp2
  refine wp_loop_rounds 3 ?_
  rw [rounds_succ]
  go_wp2_with (at_builtin; refine RowKind.Own.appendAny (R := RI) (ys := xs) HO.out HB1.out HZ.out rfl _ _ rfl rfl rfl (HA.out.below HB1.out) HL1.out ?_; intro v2 w2 hO2 hB2 hz2)
  have k1 : w2.cell? ⟨g, 1, none⟩ = some (.slice q m d) := by rw [hB2.cell (p := ⟨g, 1, none⟩) hg, ← HB1.out.cell (p := ⟨g, 1, none⟩) hg]; exact h1
  have HO2 := Lib.hid hO2; have HB2 := Lib.hid hB2
  have HZ2 := Lib.hid hB2.size
  clear h0 h1 hO2 hB2
  rw [rounds_succ]
  go_wp2_with (at_builtin; refine RowKind.Own.appendAny (R := RI) (ys := ys) HO2.out HB2.out HZ2.out rfl _ _ rfl rfl rfl (HB.out.below HB2.out) HL2.out ?_; intro v3 w3 hO3 hB3 hz3)
  have HO3 := Lib.hid hO3; have HB3 := Lib.hid hB3
  clear hO3 hB3 k1
  rw [rounds_succ]
  go_wp2
  go_returns
  exact ⟨_, rfl, HO3.out, HB3.out⟩
end Go.Proofs.YthhceggcdaljdaaGreat
