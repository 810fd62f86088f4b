import Derived.Test.YthhceggcdaljdaaGreatG19
import Derived.Test.YthhceggcdaljdaaGreatG18
import Derived.Test.YthhceggcdaljdaaGreatG13
import Derived.Deep.RegionHeldLaw
import Derived.Deep.RegionLaw
namespace Go.Proofs.YthhceggcdaljdaaGreat
open Go.RowKit
set_option linter.unusedVariables false
set_option linter.unusedSimpArgs false

/-- a list that List has given: its number is the slice's length -/
structure Lst (B : Nat) (w : World) (v : Value) (xs : List Int) : Prop where
  own : OwnI B w v xs
theorem coords_len {d c0 c1 c2 c3 : Int} (h : rightB d c0 c1 c2 c3 = true) : (coords d c0 c1 c2 c3).length = d.toNat ∧ 1 ≤ d ∧ d ≤ 4 := by
  have hp := right_of h
  have h1 := hp.1
  have h4 := hp.2.1
  refine ⟨?_, h1, h4⟩
  simp [coords]; omega
theorem OwnI.cons_shape {B : Nat} {w : World} {v : Value} {xs : List Int} (h : OwnI B w v xs) (hx : 1 ≤ xs.length) : ∃ g cap, v = .slice (some ⟨g, 0, none⟩) xs.length cap ∧ g < w.heap.size ∧ B ≤ g ∧ xs.length ≤ cap ∧ cap ≤ maxLen ∧ (∀ j, j < xs.length → w.cell? ⟨g, j, none⟩ = some (.int .i64 (nth xs j))) ∧ ∀ j, w.frozen? ⟨g, j, none⟩ = false := by
  rcases h.shape with ⟨_, rfl⟩ | h
  · simp at hx
  · exact h

/-- both lists are there, behind two calls of List; or one of them isn't, and what is told is no -/
def leLR (xs ys : List Int) : Bool := decide (xs.length = ys.length ∧ ∀ j, j < xs.length → nth xs j ≤ nth ys j)

theorem le_lists {d c0 c1 c2 c3 e0 x0 x1 x2 x3 : Int} (h : rightB d c0 c1 c2 c3 = true) (k : rightB e0 x0 x1 x2 x3 = true) :
    leLR (coords d c0 c1 c2 c3) (coords e0 x0 x1 x2 x3) = leB d c0 c1 c2 c3 e0 x0 x1 x2 x3 := by
  have hp := right_of h
  have kp := right_of k
  have hd : d = 1 ∨ d = 2 ∨ d = 3 ∨ d = 4 := by have := hp.2.1; have := hp.1; omega
  have he : e0 = 1 ∨ e0 = 2 ∨ e0 = 3 ∨ e0 = 4 := by have := kp.2.1; have := kp.1; omega
  unfold leB pairedB leLR
  rw [h, k]
  rcases hd with rfl | rfl | rfl | rfl <;> rcases he with rfl | rfl | rfl | rfl
  all_goals simp [coords, nth, rightP, greatestS, Nat.forall_lt_succ_left] at *
  all_goals (try omega)
  all_goals (rw [Bool.eq_iff_iff]; simp; omega)
/-- the one order of lists -/
def lexL : List Int → List Int → Bool
  | [], ys => decide (0 < ys.length)
  | _ :: _, [] => false
  | x :: xs, y :: ys => if y < x then false else if x < y then true else lexL xs ys
theorem less_lists {d c0 c1 c2 c3 e0 x0 x1 x2 x3 : Int} (h : rightB d c0 c1 c2 c3 = true) (k : rightB e0 x0 x1 x2 x3 = true) :
    lexL (coords d c0 c1 c2 c3) (coords e0 x0 x1 x2 x3) = lessB d c0 c1 c2 c3 e0 x0 x1 x2 x3 := by
  have hp := right_of h
  have kp := right_of k
  have hd : d = 1 ∨ d = 2 ∨ d = 3 ∨ d = 4 := by have := hp.2.1; have := hp.1; omega
  have he : e0 = 1 ∨ e0 = 2 ∨ e0 = 3 ∨ e0 = 4 := by have := kp.2.1; have := kp.1; omega
  unfold lessB lexB
  rw [h, k]
  clear h k hp kp
  rcases hd with rfl | rfl | rfl | rfl <;> rcases he with rfl | rfl | rfl | rfl
  all_goals simp [coords, lexL, imin]
  all_goals (repeat' split)
  all_goals (rw [Bool.eq_iff_iff]; simp; omega)

/-- the first unlike one decides -/
theorem lexL_at : ∀ {xs ys : List Int} (k : Nat), (∀ j, j < k → nth xs j = nth ys j) → k ≤ xs.length → k ≤ ys.length → lexL xs ys = lexL (xs.drop k) (ys.drop k)
  | _, _, 0, _, _, _ => by simp
  | [], _, _ + 1, _, h, _ => by simp at h
  | _ :: _, [], _ + 1, _, _, h => by simp at h
  | x :: xs, y :: ys, k + 1, hj, h1, h2 => by
    have h0 : x = y := hj 0 (by omega)
    subst h0
    simp only [lexL, List.drop_succ_cons]
    rw [if_neg (by omega), if_neg (by omega)]
    exact lexL_at k (fun j h => hj (j + 1) (by omega)) (by simpa using h1) (by simpa using h2)
theorem drop_nth {xs : List Int} {k : Nat} (h : k < xs.length) : xs.drop k = nth xs k :: xs.drop (k + 1) := by
  rw [List.drop_eq_getElem_cons h]; simp [nth, h]
theorem lexL_gt {xs ys : List Int} {k : Nat} (hj : ∀ j, j < k → nth xs j = nth ys j) (h1 : k < xs.length) (h2 : k < ys.length) (h : nth ys k < nth xs k) : lexL xs ys = false := by
  rw [lexL_at k hj (by omega) (by omega), drop_nth h1, drop_nth h2]; simp [lexL, h]
theorem lexL_lt {xs ys : List Int} {k : Nat} (hj : ∀ j, j < k → nth xs j = nth ys j) (h1 : k < xs.length) (h2 : k < ys.length) (h : nth xs k < nth ys k) : lexL xs ys = true := by
  rw [lexL_at k hj (by omega) (by omega), drop_nth h1, drop_nth h2]; simp [lexL, h]; omega
theorem lexL_end {xs ys : List Int} {k : Nat} (hj : ∀ j, j < k → nth xs j = nth ys j) (h1 : k ≤ xs.length) (h2 : k = ys.length) (h : k < xs.length) : lexL xs ys = false := by
  rw [lexL_at k hj (by omega) (by omega), drop_nth h, (show ys.drop k = [] from List.drop_eq_nil_of_le (by omega))]; rfl
theorem lexL_all {xs ys : List Int} {k : Nat} (hj : ∀ j, j < k → nth xs j = nth ys j) (h1 : k = xs.length) (h2 : k ≤ ys.length) : lexL xs ys = decide (k < ys.length) := by
  rw [lexL_at k hj (by omega) (by omega), List.drop_eq_nil_of_le (by omega)]; simp [lexL, List.length_drop]; omega

theorem ListPost.below {d c0 c1 c2 c3 : Int} {w : World} {e : Ending} {w' : World} (h : ListPost d c0 c1 c2 c3 w e w') : Below w.heap.size w w' := by
  rcases h with ⟨_, v, _, _, h⟩ | ⟨_, _, h⟩ <;> exact h

set_option maxHeartbeats 4000000 in
theorem rle_any (d c0 c1 c2 c3 e0 x0 x1 x2 x3 : Int) (w : World) :
    Calls Tryz.prog 55 #[.agg #[.int .i64 d, .int .i64 c0, .int .i64 c1, .int .i64 c2, .int .i64 c3], .agg #[.int .i64 e0, .int .i64 x0, .int .i64 x1, .int .i64 x2, .int .i64 x3]] w (Ret (.bool (leB d c0 c1 c2 c3 e0 x0 x1 x2 x3)) w) := by
  go_enter Tryz.func55, Tryz.ntmps55
  go_wp2_with fail
  refine (list_any _ _ _ _ _ _).mono ?_
  rintro e w1 hl1
  have hb1 : Below _ _ w1 := hl1.below
  have hz := hb1.size
  have hB := bcall (B := w.heap.size) (a := w) (by go_grown) hb1 (by go_size)
  obtain ⟨a0, a1, a2, a3, a4, b0, b1, b2, b3, b4⟩ := (Own5.new _ (.int .i64 e0) (.int .i64 x0) (.int .i64 x1) (.int .i64 x2) (.int .i64 x3) 25).below hb1 (by go_size)
  simp only [World.size_alloc] at *
  clear hb1
  rcases hl1 with ⟨hr, v, rfl, hv, hb1⟩ | ⟨hr, rfl, hb1⟩
  · clear hb1
    have hy := coords_len hr
    have hx := Lib.hid hy.1
    obtain ⟨g, cap, rfl, hg, hgB, hgc, hgm, hcx, _⟩ := hv.cons_shape (by have := hx.out; omega)
    have hcx1 := Lib.hid hcx
    clear hcx hy
    generalize hxs : coords d c0 c1 c2 c3 = xs at *
    have Hxs := Lib.hid hxs; clear hxs
    go_wp2_with fail
    refine (list_any _ _ _ _ _ _).mono ?_
    rintro e w2 hl2
    have hB2 := bcall hB hl2.below hB.size
    have hcx2 : Hid (∀ j, j < xs.length → w2.cell? ⟨g, j, none⟩ = some (.int .i64 (nth xs j))) := fun j hj => (hl2.below.cell (p := ⟨g, j, none⟩) hg).trans (hcx1.out j hj)
    clear a0 a1 a2 a3 a4 b0 b1 b2 b3 b4
    rcases hl2 with ⟨kr, v2, rfl, hv2, hb2⟩ | ⟨kr, rfl, hb2⟩
    · clear hb2 hcx1 hv
      have ky := coords_len kr
      obtain ⟨g2, cap2, rfl, hg2, _, _, hgm2, hcy, _⟩ := hv2.cons_shape (by omega)
      have hcy2 := Lib.hid hcy
      have hky := Lib.hid ky.1
      clear hcy hv2 ky
      generalize hys : coords e0 x0 x1 x2 x3 = ys at *
      have Hys := Lib.hid hys; clear hys
      have hfin : Hid (leB d c0 c1 c2 c3 e0 x0 x1 x2 x3 = leLR xs ys) := by rw [← Hxs.out, ← Hys.out]; exact (le_lists hr kr).symm
      unfold maxLen at hgm hgm2
      clear hr kr
      by_cases hlen : xs.length = ys.length
      · have hle : ((xs.length : Int) != (ys.length : Int)) = false := by simp [hlen]
        have hl1 : xs.length ≤ ys.length := by omega
        have hlen' := Lib.hid hlen
        clear hlen
        go_wp2
        go_loopw [9] (fun i wr => ∃ k m : Nat, i = .int .i64 k ∧ wr = w2.drewN m ∧ k ≤ xs.length ∧ Hid (∀ j, j < k → nth xs j ≤ nth ys j)) (fun i wr => xs.length - (intOf i).toNat)
        case atStart => exact ⟨0, 0, rfl, rfl, Nat.zero_le _, fun j hj => by omega⟩
        case round =>
          obtain ⟨k, m, rfl, rfl, hk, hall⟩ := hrel
          by_cases hlt : k < xs.length
          · have gx := hcx2.out k hlt
            have gy := hcy2.out k (by omega)
            have hky2 : (k : Int) < ys.length := by omega
            by_cases hc : nth ys k < nth xs k
            · go_wp2
              go_quiet (fail)
              go_wp2
              go_returns
              exact ⟨ret_bool (by rw [hfin.out]; exact (decide_eq_false (fun h => by have := h.2 k hlt; omega)).symm), by repeat' (first | (with_reducible refine below_drewN ?_ _) | go_grown)⟩
            · go_wp2
              go_quiet (fail)
              go_wp2
              go_roundw
              case rel => exact ⟨k + 1, _, by go_num, rfl, by omega, fun j hj => by by_cases hjk : j < k; exact hall.out j hjk; (have : j = k := by omega); subst this; omega⟩
              case measure => simp [intOf]; omega
          · go_wp2
            go_returns
            exact ⟨ret_bool (by rw [hfin.out]; exact (decide_eq_true ⟨hlen'.out, fun j hj => hall.out j (by omega)⟩).symm), by repeat' (first | (with_reducible refine below_drewN ?_ _) | go_grown)⟩
      · have hle : ((xs.length : Int) != (ys.length : Int)) = true := by simp; omega
        go_wp2
        go_returns
        exact ⟨ret_bool (by rw [hfin.out]; exact (decide_eq_false (fun h => hlen h.1)).symm), by repeat' (first | (with_reducible refine below_drewN ?_ _) | go_grown)⟩
    · have hf : Hid (leB d c0 c1 c2 c3 e0 x0 x1 x2 x3 = false) := by show leB d c0 c1 c2 c3 e0 x0 x1 x2 x3 = false; simp [leB, pairedB, kr]
      go_wp2
      go_returns
      exact ⟨ret_bool hf.out.symm, by repeat' (first | (with_reducible refine below_drewN ?_ _) | go_grown)⟩
  · have hf : Hid (leB d c0 c1 c2 c3 e0 x0 x1 x2 x3 = false) := by show leB d c0 c1 c2 c3 e0 x0 x1 x2 x3 = false; simp [leB, pairedB, hr]
    clear hb1
    go_wp2_with fail
    refine (list_any _ _ _ _ _ _).mono ?_
    rintro e w2 hl2
    have hB2 := bcall hB hl2.below hB.size
    rcases hl2 with ⟨kr, v2, rfl, hv2, hb2⟩ | ⟨kr, rfl, hb2⟩
    · go_wp2
      go_returns
      exact ⟨ret_bool hf.out.symm, by repeat' (first | (with_reducible refine below_drewN ?_ _) | go_grown)⟩
    · go_wp2
      go_returns
      exact ⟨ret_bool hf.out.symm, by repeat' (first | (with_reducible refine below_drewN ?_ _) | go_grown)⟩

set_option maxHeartbeats 4000000 in
theorem rless_any (d c0 c1 c2 c3 e0 x0 x1 x2 x3 : Int) (w : World) :
    Calls Tryz.prog 56 #[.agg #[.int .i64 d, .int .i64 c0, .int .i64 c1, .int .i64 c2, .int .i64 c3], .agg #[.int .i64 e0, .int .i64 x0, .int .i64 x1, .int .i64 x2, .int .i64 x3]] w (Ret (.bool (lessB d c0 c1 c2 c3 e0 x0 x1 x2 x3)) w) := by
  go_enter Tryz.func56, Tryz.ntmps56
  go_wp2_with fail
  refine (list_any _ _ _ _ _ _).mono ?_
  rintro e w1 hl1
  have hb1 : Below _ _ w1 := hl1.below
  have hz := hb1.size
  have hB := bcall (B := w.heap.size) (a := w) (by go_grown) hb1 (by go_size)
  obtain ⟨a0, a1, a2, a3, a4, b0, b1, b2, b3, b4⟩ := (Own5.new _ (.int .i64 e0) (.int .i64 x0) (.int .i64 x1) (.int .i64 x2) (.int .i64 x3) 25).below hb1 (by go_size)
  simp only [World.size_alloc] at *
  clear hb1
  rcases hl1 with ⟨hr, v, rfl, hv, hb1⟩ | ⟨hr, rfl, hb1⟩
  · clear hb1
    have hy := coords_len hr
    have hx := Lib.hid hy.1
    obtain ⟨g, cap, rfl, hg, hgB, hgc, hgm, hcx, _⟩ := hv.cons_shape (by have := hx.out; omega)
    have hcx1 := Lib.hid hcx
    clear hcx hy
    generalize hxs : coords d c0 c1 c2 c3 = xs at *
    have Hxs := Lib.hid hxs; clear hxs
    go_wp2_with fail
    refine (list_any _ _ _ _ _ _).mono ?_
    rintro e w2 hl2
    have hB2 := bcall hB hl2.below hB.size
    have hcx2 : Hid (∀ j, j < xs.length → w2.cell? ⟨g, j, none⟩ = some (.int .i64 (nth xs j))) := fun j hj => (hl2.below.cell (p := ⟨g, j, none⟩) hg).trans (hcx1.out j hj)
    clear a0 a1 a2 a3 a4 b0 b1 b2 b3 b4
    rcases hl2 with ⟨kr, v2, rfl, hv2, hb2⟩ | ⟨kr, rfl, hb2⟩
    · clear hb2 hcx1 hv
      have ky := coords_len kr
      obtain ⟨g2, cap2, rfl, hg2, _, _, hgm2, hcy, _⟩ := hv2.cons_shape (by omega)
      have hcy2 := Lib.hid hcy
      have hky := Lib.hid ky.1
      clear hcy hv2 ky
      generalize hys : coords e0 x0 x1 x2 x3 = ys at *
      have Hys := Lib.hid hys; clear hys
      have hfin : Hid (lessB d c0 c1 c2 c3 e0 x0 x1 x2 x3 = lexL xs ys) := by rw [← Hxs.out, ← Hys.out]; exact (less_lists hr kr).symm
      unfold maxLen at hgm hgm2
      clear hr kr
      go_wp2
      go_loopw [9] (fun i wr => ∃ k m : Nat, i = .int .i64 k ∧ wr = w2.drewN m ∧ k ≤ xs.length ∧ k ≤ ys.length ∧ Hid (∀ j, j < k → nth xs j = nth ys j)) (fun i wr => xs.length - (intOf i).toNat)
      case atStart => exact ⟨0, 0, rfl, rfl, Nat.zero_le _, Nat.zero_le _, fun j hj => by omega⟩
      case round =>
        obtain ⟨k, m, rfl, rfl, hk, hk2, hall⟩ := hrel
        by_cases hlt : k < xs.length
        · have gx := hcx2.out k hlt
          by_cases hlt2 : k < ys.length
          · have gy := hcy2.out k hlt2
            have hne : ((k : Int) == (ys.length : Int)) = false := by simp; omega
            by_cases hc : nth ys k < nth xs k
            · go_wp2
              go_quiet (fail)
              go_wp2
              go_returns
              exact ⟨ret_bool (by rw [hfin.out]; exact (lexL_gt hall.out hlt hlt2 hc).symm), by repeat' (first | (with_reducible refine below_drewN ?_ _) | go_grown)⟩
            · by_cases hc2 : nth xs k < nth ys k
              · go_wp2
                go_quiet (fail)
                go_wp2
                go_quiet (fail)
                go_wp2
                go_returns
                exact ⟨ret_bool (by rw [hfin.out]; exact (lexL_lt hall.out hlt hlt2 hc2).symm), by repeat' (first | (with_reducible refine below_drewN ?_ _) | go_grown)⟩
              · go_wp2
                go_quiet (fail)
                go_wp2
                go_quiet (fail)
                go_wp2
                go_roundw
                case rel => exact ⟨k + 1, _, by go_num, rfl, by omega, by omega, fun j hj => by by_cases hjk : j < k; exact hall.out j hjk; (have : j = k := by omega); subst this; omega⟩
                case measure => simp [intOf]; omega
          · have hne : ((k : Int) == (ys.length : Int)) = true := by simp; omega
            go_wp2
            go_quiet (fail)
            go_wp2
            go_returns
            exact ⟨ret_bool (by rw [hfin.out]; exact (lexL_end hall.out hk (by omega) hlt).symm), by repeat' (first | (with_reducible refine below_drewN ?_ _) | go_grown)⟩
        · go_wp2
          go_returns
          exact ⟨ret_bool (by rw [hfin.out, lexL_all hall.out (by omega) hk2]; simp; omega), by repeat' (first | (with_reducible refine below_drewN ?_ _) | go_grown)⟩
    · have hf : Hid (lessB d c0 c1 c2 c3 e0 x0 x1 x2 x3 = false) := by show lessB d c0 c1 c2 c3 e0 x0 x1 x2 x3 = false; simp [lessB, kr]
      go_wp2
      go_returns
      exact ⟨ret_bool hf.out.symm, by repeat' (first | (with_reducible refine below_drewN ?_ _) | go_grown)⟩
  · have hf : Hid (lessB d c0 c1 c2 c3 e0 x0 x1 x2 x3 = false) := by show lessB d c0 c1 c2 c3 e0 x0 x1 x2 x3 = false; simp [lessB, hr]
    clear hb1
    go_wp2_with fail
    refine (list_any _ _ _ _ _ _).mono ?_
    rintro e w2 hl2
    have hB2 := bcall hB hl2.below hB.size
    rcases hl2 with ⟨kr, v2, rfl, hv2, hb2⟩ | ⟨kr, rfl, hb2⟩
    · go_wp2
      go_returns
      exact ⟨ret_bool hf.out.symm, by repeat' (first | (with_reducible refine below_drewN ?_ _) | go_grown)⟩
    · go_wp2
      go_returns
      exact ⟨ret_bool hf.out.symm, by repeat' (first | (with_reducible refine below_drewN ?_ _) | go_grown)⟩

end Go.Proofs.YthhceggcdaljdaaGreat
namespace Go.Proofs.YthhceggcdaljdaaGreat
open Go.RowKit
set_option linter.unusedVariables false
set_option linter.unusedSimpArgs false
attribute [local go_sem ↓] eqTime neTime

/- the document's answers on chains: Covers, Both -/
theorem rtle_any (t u : TV) (w : World) : Calls Tryz.prog 55 #[t.val, u.val] w (Ret (.bool (t.le u)) w) := rle_any _ _ _ _ _ _ _ _ _ _ w
theorem rtlt_any (t u : TV) (w : World) : Calls Tryz.prog 56 #[t.val, u.val] w (Ret (.bool (t.lt u)) w) := rless_any _ _ _ _ _ _ _ _ _ _ w
theorem OwnTT.empty (w : World) : OwnTT w.heap.size (w.alloc (.cells #[] 25)) (.slice (some ⟨w.heap.size, 0, none⟩) 0 0) [] := World.ownsRow_lit w #[] 0 (Nat.le_refl _) (Nat.zero_le _) rfl
end Go.Proofs.YthhceggcdaljdaaGreat
namespace Go.Proofs.YthhceggcdaljdaaGreat
open Go.RowKit
set_option linter.unusedVariables false
set_option linter.unusedSimpArgs false

/- the document's Of, as plain facts: each timestamp is held against all others, and put into its place -/
def badAt (xs : List TV) (i m : Nat) : Bool := (!eqT xs[m]! xs[i]! && (xs[m]!).le xs[i]!) || (decide (m < i) && eqT xs[m]! xs[i]!)
def lowToC (xs : List TV) (i k : Nat) : Bool := (xs[i]!).ok && !((List.range k).any (badAt xs i))
theorem lowTo_zero (xs : List TV) (i : Nat) : lowToC xs i 0 = (xs[i]!).ok := by simp [lowToC]
theorem lowTo_succ (xs : List TV) (i k : Nat) : lowToC xs i (k + 1) = (lowToC xs i k && !badAt xs i k) := by
  simp only [lowToC, List.range_succ, List.any_append, List.any_cons, List.any_nil, Bool.or_false]
  cases (xs[i]!).ok <;> cases (List.range k).any (badAt xs i) <;> cases badAt xs i k <;> rfl
theorem lowToC_iff {xs : List TV} {i k : Nat} : lowToC xs i k = true ↔ (xs[i]!).ok = true ∧ ∀ m, m < k → (xs[m]! ≠ xs[i]! → (xs[m]!).le xs[i]! = false) ∧ (m < i → xs[m]! ≠ xs[i]!) := by
  simp only [lowToC, Bool.and_eq_true, Bool.not_eq_true', List.any_eq_false, List.mem_range]
  constructor
  · rintro ⟨h1, h2⟩
    refine ⟨h1, fun m hm => ?_⟩
    have h := h2 m hm
    simp only [badAt, eqT, Bool.or_eq_true, Bool.and_eq_true, Bool.not_eq_true', decide_eq_true_eq, decide_eq_false_iff_not, not_or, not_and, Bool.not_eq_true] at h
    exact ⟨fun e => h.1 e, fun hl e => h.2 hl e⟩
  · rintro ⟨h1, h2⟩
    refine ⟨h1, fun m hm => ?_⟩
    have h := h2 m hm
    simp only [badAt, eqT, Bool.or_eq_true, Bool.and_eq_true, Bool.not_eq_true', decide_eq_true_eq, decide_eq_false_iff_not, not_or, not_and, Bool.not_eq_true]
    exact ⟨fun e => h.1 e, fun hl e => h.2 hl e⟩
/-- what has been gathered of the first i -/
structure Gat (xs : List TV) (i : Nat) (out : List TV) : Prop where
  s : strict out
  m : ∀ t, t ∈ out ↔ ∃ j, j < i ∧ xs[j]! = t ∧ lowToC xs j xs.length = true
theorem Gat.zero (xs : List TV) : Gat xs 0 [] := ⟨List.Pairwise.nil, fun t => ⟨fun h => (by cases h), fun ⟨j, h, _⟩ => (by omega)⟩⟩
theorem Gat.skip {xs : List TV} {i : Nat} {out : List TV} (h : Gat xs i out) (hl : lowToC xs i xs.length = false) : Gat xs (i + 1) out := by
  refine ⟨h.s, fun t => ?_⟩
  rw [h.m t]
  constructor
  · rintro ⟨j, h1, h2, h3⟩; exact ⟨j, by omega, h2, h3⟩
  · rintro ⟨j, h1, h2, h3⟩
    rcases Nat.lt_or_ge j i with q | q
    · exact ⟨j, q, h2, h3⟩
    · obtain rfl : j = i := by omega
      rw [hl] at h3; cases h3
theorem Gat.len {xs : List TV} {i : Nat} {out : List TV} (h : Gat xs i out) (hi : i < xs.length) (hl : lowToC xs i xs.length = true) : ∀ y ∈ out, y ≠ xs[i]! ∧ y.le xs[i]! = false ∧ (xs[i]!).le y = false ∧ y.ok = true := by
  intro y hy
  obtain ⟨j, h1, rfl, h3⟩ := (h.m y).1 hy
  have a := (lowToC_iff.1 hl).2 j (by omega)
  have b := (lowToC_iff.1 h3).2 i hi
  have e := a.2 h1
  exact ⟨e, a.1 e, b.1 (fun q => e q.symm), (lowToC_iff.1 h3).1⟩
theorem strict_keys {l : List TV} (h : strict l) {a b : Nat} (hab : a < b) (hb : b < l.length) : (l[a]!).key < (l[b]!).key := by
  have := (List.pairwise_iff_getElem.1 h a b (by omega) hb hab).1
  rw [getElem!_pos l a (by omega), getElem!_pos l b hb]
  exact ((TV.lt_iff _ _).1 this).2.2
theorem Gat.put {xs : List TV} {i : Nat} {out : List TV} (h : Gat xs i out) (hi : i < xs.length) (hl : lowToC xs i xs.length = true) {k : Nat} (hk : k ≤ out.length) (hd : ∀ y ∈ out.drop k, (xs[i]!).lt y = true)
    (hs : k = 0 ∨ (xs[i]!).lt out[k - 1]! = false) : Gat xs (i + 1) (out.take k ++ xs[i]! :: out.drop k) := by
  have hx := (lowToC_iff.1 hl).1
  have hn := h.len hi hl
  refine ⟨?_, fun t => ?_⟩
  · have hall : strict (out.take k ++ out.drop k) := by rw [List.take_append_drop]; exact h.s
    rw [strict, List.pairwise_append] at hall ⊢
    refine ⟨hall.1, List.pairwise_cons.2 ⟨fun y hy => ⟨hd y hy, (hn y (List.mem_of_mem_drop hy)).2.2.1⟩, hall.2.1⟩, ?_⟩
    intro a ha b hb
    rcases List.mem_cons.1 hb with e | hb
    · subst e
      obtain ⟨ne, l1, l2, ok⟩ := hn a (List.mem_of_mem_take ha)
      refine ⟨?_, l1⟩
      rw [TV.lt_iff]
      refine ⟨ok, hx, ?_⟩
      have hk0 : k ≠ 0 := fun e => by subst e; simp at ha
      have hlast := hs.resolve_left hk0
      have hkl : k - 1 < out.length := by omega
      have hmem : out[k - 1]! ∈ out := by rw [getElem!_pos out (k - 1) hkl]; exact List.getElem_mem hkl
      have hle := (lt_false (hn _ hmem).2.2.2 hx).1 hlast
      obtain ⟨j, hj, e⟩ := List.mem_iff_getElem.1 ha
      have hj' : j < k := by rw [List.length_take] at hj; omega
      have ea : a = out[j]! := by rw [getElem!_pos out j (by omega), ← e, List.getElem_take]
      have hjk : (out[j]!).key ≤ (out[k - 1]!).key := by
        rcases Nat.lt_or_ge j (k - 1) with q | q
        · exact Int.le_of_lt (strict_keys h.s q hkl)
        · obtain rfl : j = k - 1 := by omega
          exact Int.le_refl _
      rw [← ea] at hjk
      rcases Int.lt_or_eq_of_le (Int.le_trans hjk hle) with q | q
      · exact q
      · exact absurd (TV.key_inj ok hx q) ne
    · exact hall.2.2 a ha b hb
  · have hm : t ∈ out.take k ++ xs[i]! :: out.drop k ↔ t = xs[i]! ∨ t ∈ out := by
      constructor
      · intro q
        rcases List.mem_append.1 q with q | q
        · exact .inr (List.mem_of_mem_take q)
        · rcases List.mem_cons.1 q with q | q
          · exact .inl q
          · exact .inr (List.mem_of_mem_drop q)
      · rintro (q | q)
        · exact List.mem_append.2 (.inr (by rw [q]; simp))
        · rw [← List.take_append_drop k out] at q
          rcases List.mem_append.1 q with q | q
          · exact List.mem_append.2 (.inl q)
          · exact List.mem_append.2 (.inr (List.mem_cons_of_mem _ q))
    rw [hm, h.m t]
    constructor
    · rintro (q | ⟨j, h1, h2, h3⟩)
      · exact ⟨i, by omega, q.symm, hl⟩
      · exact ⟨j, by omega, h2, h3⟩
    · rintro ⟨j, h1, h2, h3⟩
      rcases Nat.lt_or_ge j i with q | q
      · exact .inr ⟨j, q, h2, h3⟩
      · obtain rfl : j = i := by omega
        exact .inl h2.symm
theorem first_at (p : Nat → Prop) [DecidablePred p] : ∀ n, (∃ j, j < n ∧ p j) → ∃ j, j < n ∧ p j ∧ ∀ m, m < j → ¬ p m
  | 0, ⟨j, h, _⟩ => by omega
  | n + 1, ⟨j, h, hp⟩ => by
    by_cases q : ∃ j, j < n ∧ p j
    · obtain ⟨a, b, c, d⟩ := first_at p n q
      exact ⟨a, by omega, c, d⟩
    · refine ⟨j, h, hp, fun m hm hq => q ⟨m, by omega, hq⟩⟩
theorem get_mem {xs : List TV} {j : Nat} (h : j < xs.length) : xs[j]! ∈ xs := by rw [getElem!_pos xs j h]; exact List.getElem_mem h
theorem Gat.all {xs out : List TV} (h : Gat xs xs.length out) : out = ofT xs := by
  refine strict_ext h.s (ofT_strict xs) fun t => ?_
  rw [h.m t, ofT_char]
  constructor
  · rintro ⟨j, h1, rfl, h3⟩
    have q := lowToC_iff.1 h3
    refine ⟨q.1, cov_iff.2 ⟨_, get_mem h1, TV.le_refl q.1⟩, fun s hs hl => ?_⟩
    obtain ⟨r, hr, hrs⟩ := cov_iff.1 hs
    obtain ⟨m, hm, e⟩ := List.mem_iff_getElem.1 hr
    have em : xs[m]! = r := by rw [getElem!_pos xs m hm, e]
    have hrt := TV.le_trans hrs hl
    by_cases ne : xs[m]! = xs[j]!
    · rw [← em, ne] at hrs
      exact TV.le_antisymm hl hrs
    · have := (q.2 m hm).1 ne
      rw [em, hrt] at this
      cases this
  · rintro ⟨h1, h2, h3⟩
    have ht : t ∈ xs := (ofT_mem (ofT_char.2 ⟨h1, h2, h3⟩)).1
    obtain ⟨m, hm, e⟩ := List.mem_iff_getElem.1 ht
    obtain ⟨j, hj, ej, hf⟩ := first_at (fun j => xs[j]! = t) xs.length ⟨m, hm, by rw [getElem!_pos xs m hm, e]⟩
    refine ⟨j, hj, ej, lowToC_iff.2 ⟨by rw [ej]; exact h1, fun a ha => ⟨fun ne => ?_, fun hl => by rw [ej]; exact hf a hl⟩⟩⟩
    cases q : (xs[a]!).le xs[j]!
    · rfl
    · rw [ej] at q ne
      exact absurd (h3 _ (cov_iff.2 ⟨_, get_mem ha, TV.le_refl (TV.le_left q)⟩) q) ne
end Go.Proofs.YthhceggcdaljdaaGreat
namespace Go.Proofs.YthhceggcdaljdaaGreat
open Go.RowKit
set_option linter.unusedVariables false
set_option linter.unusedSimpArgs false
attribute [local go_sem ↓] eqTime neTime

theorem cellsT_cons (x : TV) (xs : List TV) : cellsT (x :: xs) = .int .i64 x.d :: .int .i64 x.c0 :: .int .i64 x.c1 :: .int .i64 x.c2 :: .int .i64 x.c3 :: cellsT xs := rfl
theorem cellsT_set (y : TV) : ∀ (xs : List TV) (j : Nat), j < xs.length → cellsT (xs.set j y) = (((((cellsT xs).set (j * 5) (.int .i64 y.d)).set (j * 5 + 1) (.int .i64 y.c0)).set (j * 5 + 2) (.int .i64 y.c1)).set (j * 5 + 3) (.int .i64 y.c2)).set (j * 5 + 4) (.int .i64 y.c3)
  | x :: xs, 0, _ => by simp [cellsT_cons]
  | x :: xs, j + 1, h => by
    have ih := cellsT_set y xs j (by simpa using h)
    rw [List.set_cons_succ, cellsT_cons, cellsT_cons, ih]
    rw [show (j + 1) * 5 = j * 5 + 1 + 1 + 1 + 1 + 1 by omega, show j * 5 + 1 + 1 + 1 + 1 + 1 + 1 = j * 5 + 1 + 1 + 1 + 1 + 1 + 1 from rfl]
    simp only [List.set_cons_succ, show ∀ a : Nat, a + 1 + 1 + 1 + 1 + 1 + 2 = a + 2 + 1 + 1 + 1 + 1 + 1 from fun a => by omega, show ∀ a : Nat, a + 1 + 1 + 1 + 1 + 1 + 3 = a + 3 + 1 + 1 + 1 + 1 + 1 from fun a => by omega, show ∀ a : Nat, a + 1 + 1 + 1 + 1 + 1 + 4 = a + 4 + 1 + 1 + 1 + 1 + 1 from fun a => by omega]
/-- a store of a timestamp into a row of the call's own -/
def setT (w : World) (g o : Nat) (y : TV) : World := ((((w.setCell ⟨g, o, none⟩ (.int .i64 y.d)).setCell ⟨g, o + 1, none⟩ (.int .i64 y.c0)).setCell ⟨g, o + 2, none⟩ (.int .i64 y.c1)).setCell ⟨g, o + 3, none⟩ (.int .i64 y.c2)).setCell ⟨g, o + 4, none⟩ (.int .i64 y.c3)
theorem OwnTT.set {B : Nat} {w : World} {g n cap : Nat} {xs : List TV} (h : OwnTT B w (.slice (some ⟨g, 0, none⟩) n cap) xs) (hn : n = xs.length) (j : Nat) (hj : j < xs.length) (y : TV) :
    OwnTT B (setT w g (j * 5) y) (.slice (some ⟨g, 0, none⟩) n cap) (xs.set j y) := by
  subst hn
  unfold OwnTT
  rw [cellsT_set y xs j hj, List.length_set]
  exact (World.ownsRow.stored (World.ownsRow.stored (World.ownsRow.stored (World.ownsRow.stored (World.ownsRow.stored h (j * 5) _).1 (j * 5 + 1) _).1 (j * 5 + 2) _).1 (j * 5 + 3) _).1 (j * 5 + 4) _).1
theorem below_setT {B : Nat} {w0 w : World} (h : Below B w0 w) {g : Nat} (hg : B ≤ g) (o : Nat) (y : TV) : Below B w0 (setT w g o y) :=
  ((((h.setCell hg _).setCell hg _).setCell hg _).setCell hg _).setCell hg _
theorem OwnTT.cell5 {B : Nat} {w : World} {g n cap : Nat} {xs : List TV} (h : OwnTT B w (.slice (some ⟨g, 0, none⟩) n cap) xs) (hn : n = xs.length) (j : Nat) (hj : j < n) :
    w.cell? ⟨g, j * 5, none⟩ = some (.int .i64 xs[j]!.d) ∧ w.cell? ⟨g, j * 5 + 1, none⟩ = some (.int .i64 xs[j]!.c0) ∧ w.cell? ⟨g, j * 5 + 2, none⟩ = some (.int .i64 xs[j]!.c1) ∧ w.cell? ⟨g, j * 5 + 3, none⟩ = some (.int .i64 xs[j]!.c2) ∧ w.cell? ⟨g, j * 5 + 4, none⟩ = some (.int .i64 xs[j]!.c3) := by
  subst hn
  have q : ∀ i, i < 5 → w.cell? ⟨g, j * 5 + i, none⟩ = (xs[j]!.enc)[i]? := fun i hi => by rw [World.ownsRow.cellAt h (j * 5 + i) (by omega), cellsT_get xs j hj i hi]
  exact ⟨q 0 (by decide), q 1 (by decide), q 2 (by decide), q 3 (by decide), q 4 (by decide)⟩
/-- a store of a timestamp, at a step of a region that draws its order -/
theorem step_setT {ops : Array Oper} {o : Oper} {a : Act} {K : Act → World → Prop} {Q : Exit → Act → World → Prop} {E : Prop} {w0 w : World} {B g n cap : Nat} {xs : List TV} (hown : OwnTT B w (.slice (some ⟨g, 0, none⟩) n cap) xs) (hb : Below B w0 w) (hn : n = xs.length)
    (hgd : o.guard = none) (p z : Operand) (ho : o.op = .store 25 p z) (j : Nat) (hj : j < n) (y : TV) (hp : a.eval p = .pointer (some ⟨g, j * 5, none⟩)) (hz : a.eval z = y.val) (hg : B ≤ g)
    (h : ∀ w', OwnTT B w' (.slice (some ⟨g, 0, none⟩) n cap) (xs.set j y) → Below B w0 w' → K (a.put o.dst undef) w') :
    if Region.wanted o (yielded ops a.tmps) = true then Oper.wp Tryz.prog o a w K Q else E := by
  have hw : Region.wanted o (yielded ops a.tmps) = true := by simp [Region.wanted, hgd]
  rw [if_pos hw]
  have hc := hown.cell5 hn j hj
  have hf : ∀ t, w.frozen? ⟨g, t, none⟩ = false := fun t => by
    subst hn
    have h' : w.ownsRow B 25 5 (.slice (some ⟨g, 0, none⟩) xs.length cap) xs.length (cellsT xs) := hown
    exact World.ownsRow.frozenAt h' t
  refine wp_store_mid 25 p z ho g (j * 5) y.enc.toArray hp hz ?_ (by kernel_rfl) (all_oneCell_toArray (enc_one y)) ?_
  · intro i hi
    have hi5 : i = 0 ∨ i = 1 ∨ i = 2 ∨ i = 3 ∨ i = 4 := by simp [TV.enc] at hi; omega
    refine ⟨?_, hf _⟩
    rcases hi5 with rfl | rfl | rfl | rfl | rfl
    · rw [Nat.add_zero, hc.1]; rfl
    · rw [hc.2.1]; rfl
    · rw [hc.2.2.1]; rfl
    · rw [hc.2.2.2.1]; rfl
    · rw [hc.2.2.2.2]; rfl
  · exact h (setT w g (j * 5) y) (hown.set hn j (by omega) y) (below_setT hb hg _ _)
theorem rlist_ok (t : TV) (w : World) : Calls Tryz.prog 52 #[t.val] w (fun e w' => ∃ v, e = .returned (.tuple #[v, .bool t.ok]) ∧ Below w.heap.size w w') := by
  refine (list_any _ _ _ _ _ _).mono ?_
  rintro e w' (⟨h, v, he, _, hb⟩ | ⟨h, he, hb⟩)
  · exact ⟨v, by rw [he]; unfold TV.ok; rw [h], hb⟩
  · exact ⟨_, by rw [he]; unfold TV.ok; rw [h], hb⟩
theorem OwnTT.form {B : Nat} {w : World} {v : Value} {xs : List TV} (h : OwnTT B w v xs) (hx : 0 < xs.length) : ∃ g cap, v = .slice (some ⟨g, 0, none⟩) xs.length cap ∧ B ≤ g ∧ g < w.heap.size := by
  rcases h.2 with ⟨_, h0⟩ | ⟨g, cap, cur, hv, hb, hg, _⟩
  · omega
  · exact ⟨g, cap, hv, hb, (Array.getElem?_eq_some_iff.1 hg).1⟩
end Go.Proofs.YthhceggcdaljdaaGreat
