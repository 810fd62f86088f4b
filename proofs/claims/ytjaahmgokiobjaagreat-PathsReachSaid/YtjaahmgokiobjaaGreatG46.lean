import Derived.Test.YtjaahmgokiobjaaGreatG44
import Derived.Test.YtjaahmgokiobjaaGreatG42
import Derived.Test.YtjaahmgokiobjaaGreatG45
namespace Go.Proofs.YtjaahmgokiobjaaGreat
open Go.RowKit
set_option linter.unusedVariables false
set_option linter.unusedSimpArgs false

/-- a list that List has given: its number is the slice's length -/
structure Lst (B : Nat) (w : World) (v : Value) (xs : List Int) : Prop where
  own : OwnI B w v xs
theorem coords_len {d c0 c1 c2 c3 : Int} (h : rightB d c0 c1 c2 c3 = true) : (coords d c0 c1 c2 c3).length = d.toNat ∧ 1 ≤ d ∧ d ≤ 4 := by
  have hp := right_of h
  have h1 := hp.1
  have h4 := hp.2.1
  refine ⟨?_, h1, h4⟩
  simp [coords]; omega
theorem OwnI.cons_shape {B : Nat} {w : World} {v : Value} {xs : List Int} (h : OwnI B w v xs) (hx : 1 ≤ xs.length) : ∃ g cap, v = .slice (some ⟨g, 0, none⟩) xs.length cap ∧ g < w.heap.size ∧ B ≤ g ∧ xs.length ≤ cap ∧ cap ≤ maxLen ∧ (∀ j, j < xs.length → w.cell? ⟨g, j, none⟩ = some (.int .i64 (nth xs j))) ∧ ∀ j, w.frozen? ⟨g, j, none⟩ = false := by
  rcases h.shape with ⟨_, rfl⟩ | h
  · simp at hx
  · exact h

/-- both lists are there, behind two calls of List; or one of them isn't, and what is told is no -/
def leLR (xs ys : List Int) : Bool := decide (xs.length = ys.length ∧ ∀ j, j < xs.length → nth xs j ≤ nth ys j)

theorem le_lists {d c0 c1 c2 c3 e0 x0 x1 x2 x3 : Int} (h : rightB d c0 c1 c2 c3 = true) (k : rightB e0 x0 x1 x2 x3 = true) :
    leLR (coords d c0 c1 c2 c3) (coords e0 x0 x1 x2 x3) = leB d c0 c1 c2 c3 e0 x0 x1 x2 x3 := by
  have hp := right_of h
  have kp := right_of k
  have hd : d = 1 ∨ d = 2 ∨ d = 3 ∨ d = 4 := by have := hp.2.1; have := hp.1; omega
  have he : e0 = 1 ∨ e0 = 2 ∨ e0 = 3 ∨ e0 = 4 := by have := kp.2.1; have := kp.1; omega
  unfold leB pairedB leLR
  rw [h, k]
  rcases hd with rfl | rfl | rfl | rfl <;> rcases he with rfl | rfl | rfl | rfl
  all_goals simp [coords, nth, rightP, greatestS, Nat.forall_lt_succ_left] at *
  all_goals (try omega)
  all_goals (rw [Bool.eq_iff_iff]; simp; omega)
/-- the one order of lists -/
def lexL : List Int → List Int → Bool
  | [], ys => decide (0 < ys.length)
  | _ :: _, [] => false
  | x :: xs, y :: ys => if y < x then false else if x < y then true else lexL xs ys
theorem less_lists {d c0 c1 c2 c3 e0 x0 x1 x2 x3 : Int} (h : rightB d c0 c1 c2 c3 = true) (k : rightB e0 x0 x1 x2 x3 = true) :
    lexL (coords d c0 c1 c2 c3) (coords e0 x0 x1 x2 x3) = lessB d c0 c1 c2 c3 e0 x0 x1 x2 x3 := by
  have hp := right_of h
  have kp := right_of k
  have hd : d = 1 ∨ d = 2 ∨ d = 3 ∨ d = 4 := by have := hp.2.1; have := hp.1; omega
  have he : e0 = 1 ∨ e0 = 2 ∨ e0 = 3 ∨ e0 = 4 := by have := kp.2.1; have := kp.1; omega
  unfold lessB lexB
  rw [h, k]
  clear h k hp kp
  rcases hd with rfl | rfl | rfl | rfl <;> rcases he with rfl | rfl | rfl | rfl
  all_goals simp [coords, lexL, imin]
  all_goals (repeat' split)
  all_goals (rw [Bool.eq_iff_iff]; simp; omega)

/-- the first unlike one decides -/
theorem lexL_at : ∀ {xs ys : List Int} (k : Nat), (∀ j, j < k → nth xs j = nth ys j) → k ≤ xs.length → k ≤ ys.length → lexL xs ys = lexL (xs.drop k) (ys.drop k)
  | _, _, 0, _, _, _ => by simp
  | [], _, _ + 1, _, h, _ => by simp at h
  | _ :: _, [], _ + 1, _, _, h => by simp at h
  | x :: xs, y :: ys, k + 1, hj, h1, h2 => by
    have h0 : x = y := hj 0 (by omega)
    subst h0
    simp only [lexL, List.drop_succ_cons]
    rw [if_neg (by omega), if_neg (by omega)]
    exact lexL_at k (fun j h => hj (j + 1) (by omega)) (by simpa using h1) (by simpa using h2)
theorem drop_nth {xs : List Int} {k : Nat} (h : k < xs.length) : xs.drop k = nth xs k :: xs.drop (k + 1) := by
  rw [List.drop_eq_getElem_cons h]; simp [nth, h]
theorem lexL_gt {xs ys : List Int} {k : Nat} (hj : ∀ j, j < k → nth xs j = nth ys j) (h1 : k < xs.length) (h2 : k < ys.length) (h : nth ys k < nth xs k) : lexL xs ys = false := by
  rw [lexL_at k hj (by omega) (by omega), drop_nth h1, drop_nth h2]; simp [lexL, h]
theorem lexL_lt {xs ys : List Int} {k : Nat} (hj : ∀ j, j < k → nth xs j = nth ys j) (h1 : k < xs.length) (h2 : k < ys.length) (h : nth xs k < nth ys k) : lexL xs ys = true := by
  rw [lexL_at k hj (by omega) (by omega), drop_nth h1, drop_nth h2]; simp [lexL, h]; omega
theorem lexL_end {xs ys : List Int} {k : Nat} (hj : ∀ j, j < k → nth xs j = nth ys j) (h1 : k ≤ xs.length) (h2 : k = ys.length) (h : k < xs.length) : lexL xs ys = false := by
  rw [lexL_at k hj (by omega) (by omega), drop_nth h, (show ys.drop k = [] from List.drop_eq_nil_of_le (by omega))]; rfl
theorem lexL_all {xs ys : List Int} {k : Nat} (hj : ∀ j, j < k → nth xs j = nth ys j) (h1 : k = xs.length) (h2 : k ≤ ys.length) : lexL xs ys = decide (k < ys.length) := by
  rw [lexL_at k hj (by omega) (by omega), List.drop_eq_nil_of_le (by omega)]; simp [lexL, List.length_drop]; omega

theorem ListPost.below {d c0 c1 c2 c3 : Int} {w : World} {e : Ending} {w' : World} (h : ListPost d c0 c1 c2 c3 w e w') : Below w.heap.size w w' := by
  rcases h with ⟨_, v, _, _, h⟩ | ⟨_, _, h⟩ <;> exact h

set_option maxHeartbeats 4000000 in
theorem rle_any (d c0 c1 c2 c3 e0 x0 x1 x2 x3 : Int) (w : World) :
    Calls Tryz.prog 22 #[.agg #[.int .i64 d, .int .i64 c0, .int .i64 c1, .int .i64 c2, .int .i64 c3], .agg #[.int .i64 e0, .int .i64 x0, .int .i64 x1, .int .i64 x2, .int .i64 x3]] w (Ret (.bool (leB d c0 c1 c2 c3 e0 x0 x1 x2 x3)) w) := by
  go_enter Tryz.func22, Tryz.ntmps22
  go_wp2_with fail
  refine (list_any _ _ _ _ _ _).mono ?_
  rintro e w1 hl1
  have hb1 : Below _ _ w1 := hl1.below
  have hz := hb1.size
  have hB := bcall (B := w.heap.size) (a := w) (by go_grown) hb1 (by go_size)
  obtain ⟨a0, a1, a2, a3, a4, b0, b1, b2, b3, b4⟩ := (Own5.new _ (.int .i64 e0) (.int .i64 x0) (.int .i64 x1) (.int .i64 x2) (.int .i64 x3) 29).below hb1 (by go_size)
  simp only [World.size_alloc] at *
  clear hb1
  rcases hl1 with ⟨hr, v, rfl, hv, hb1⟩ | ⟨hr, rfl, hb1⟩
  · clear hb1
    have hy := coords_len hr
    have hx := Lib.hid hy.1
    obtain ⟨g, cap, rfl, hg, hgB, hgc, hgm, hcx, _⟩ := hv.cons_shape (by have := hx.out; omega)
    have hcx1 := Lib.hid hcx
    clear hcx hy
    generalize hxs : coords d c0 c1 c2 c3 = xs at *
    have Hxs := Lib.hid hxs; clear hxs
    go_wp2_with fail
    refine (list_any _ _ _ _ _ _).mono ?_
    rintro e w2 hl2
    have hB2 := bcall hB hl2.below hB.size
    have hcx2 : Hid (∀ j, j < xs.length → w2.cell? ⟨g, j, none⟩ = some (.int .i64 (nth xs j))) := fun j hj => (hl2.below.cell (p := ⟨g, j, none⟩) hg).trans (hcx1.out j hj)
    clear a0 a1 a2 a3 a4 b0 b1 b2 b3 b4
    rcases hl2 with ⟨kr, v2, rfl, hv2, hb2⟩ | ⟨kr, rfl, hb2⟩
    · clear hb2 hcx1 hv
      have ky := coords_len kr
      obtain ⟨g2, cap2, rfl, hg2, _, _, hgm2, hcy, _⟩ := hv2.cons_shape (by omega)
      have hcy2 := Lib.hid hcy
      have hky := Lib.hid ky.1
      clear hcy hv2 ky
      generalize hys : coords e0 x0 x1 x2 x3 = ys at *
      have Hys := Lib.hid hys; clear hys
      have hfin : Hid (leB d c0 c1 c2 c3 e0 x0 x1 x2 x3 = leLR xs ys) := by rw [← Hxs.out, ← Hys.out]; exact (le_lists hr kr).symm
      unfold maxLen at hgm hgm2
      clear hr kr
      by_cases hlen : xs.length = ys.length
      · have hle : ((xs.length : Int) != (ys.length : Int)) = false := by simp [hlen]
        have hl1 : xs.length ≤ ys.length := by omega
        have hlen' := Lib.hid hlen
        clear hlen
        go_wp2
        go_loopw [9] (fun i wr => ∃ k m : Nat, i = .int .i64 k ∧ wr = w2.drewN m ∧ k ≤ xs.length ∧ Hid (∀ j, j < k → nth xs j ≤ nth ys j)) (fun i wr => xs.length - (intOf i).toNat)
        case atStart => exact ⟨0, 0, rfl, rfl, Nat.zero_le _, fun j hj => by omega⟩
        case round =>
          obtain ⟨k, m, rfl, rfl, hk, hall⟩ := hrel
          by_cases hlt : k < xs.length
          · have gx := hcx2.out k hlt
            have gy := hcy2.out k (by omega)
            have hky2 : (k : Int) < ys.length := by omega
            by_cases hc : nth ys k < nth xs k
            · go_wp2
              go_quiet (fail)
              go_wp2
              go_returns
              exact ⟨ret_bool (by rw [hfin.out]; exact (decide_eq_false (fun h => by have := h.2 k hlt; omega)).symm), by repeat' (first | (with_reducible refine below_drewN ?_ _) | go_grown)⟩
            · go_wp2
              go_quiet (fail)
              go_wp2
              go_roundw
              case rel => exact ⟨k + 1, _, by go_num, rfl, by omega, fun j hj => by by_cases hjk : j < k; exact hall.out j hjk; (have : j = k := by omega); subst this; omega⟩
              case measure => simp [intOf]; omega
          · go_wp2
            go_returns
            exact ⟨ret_bool (by rw [hfin.out]; exact (decide_eq_true ⟨hlen'.out, fun j hj => hall.out j (by omega)⟩).symm), by repeat' (first | (with_reducible refine below_drewN ?_ _) | go_grown)⟩
      · have hle : ((xs.length : Int) != (ys.length : Int)) = true := by simp; omega
        go_wp2
        go_returns
        exact ⟨ret_bool (by rw [hfin.out]; exact (decide_eq_false (fun h => hlen h.1)).symm), by repeat' (first | (with_reducible refine below_drewN ?_ _) | go_grown)⟩
    · have hf : Hid (leB d c0 c1 c2 c3 e0 x0 x1 x2 x3 = false) := by show leB d c0 c1 c2 c3 e0 x0 x1 x2 x3 = false; simp [leB, pairedB, kr]
      go_wp2
      go_returns
      exact ⟨ret_bool hf.out.symm, by repeat' (first | (with_reducible refine below_drewN ?_ _) | go_grown)⟩
  · have hf : Hid (leB d c0 c1 c2 c3 e0 x0 x1 x2 x3 = false) := by show leB d c0 c1 c2 c3 e0 x0 x1 x2 x3 = false; simp [leB, pairedB, hr]
    clear hb1
    go_wp2_with fail
    refine (list_any _ _ _ _ _ _).mono ?_
    rintro e w2 hl2
    have hB2 := bcall hB hl2.below hB.size
    rcases hl2 with ⟨kr, v2, rfl, hv2, hb2⟩ | ⟨kr, rfl, hb2⟩
    · go_wp2
      go_returns
      exact ⟨ret_bool hf.out.symm, by repeat' (first | (with_reducible refine below_drewN ?_ _) | go_grown)⟩
    · go_wp2
      go_returns
      exact ⟨ret_bool hf.out.symm, by repeat' (first | (with_reducible refine below_drewN ?_ _) | go_grown)⟩

set_option maxHeartbeats 4000000 in
theorem rless_any (d c0 c1 c2 c3 e0 x0 x1 x2 x3 : Int) (w : World) :
    Calls Tryz.prog 50 #[.agg #[.int .i64 d, .int .i64 c0, .int .i64 c1, .int .i64 c2, .int .i64 c3], .agg #[.int .i64 e0, .int .i64 x0, .int .i64 x1, .int .i64 x2, .int .i64 x3]] w (Ret (.bool (lessB d c0 c1 c2 c3 e0 x0 x1 x2 x3)) w) := by
  go_enter Tryz.func50, Tryz.ntmps50
  go_wp2_with fail
  refine (list_any _ _ _ _ _ _).mono ?_
  rintro e w1 hl1
  have hb1 : Below _ _ w1 := hl1.below
  have hz := hb1.size
  have hB := bcall (B := w.heap.size) (a := w) (by go_grown) hb1 (by go_size)
  obtain ⟨a0, a1, a2, a3, a4, b0, b1, b2, b3, b4⟩ := (Own5.new _ (.int .i64 e0) (.int .i64 x0) (.int .i64 x1) (.int .i64 x2) (.int .i64 x3) 29).below hb1 (by go_size)
  simp only [World.size_alloc] at *
  clear hb1
  rcases hl1 with ⟨hr, v, rfl, hv, hb1⟩ | ⟨hr, rfl, hb1⟩
  · clear hb1
    have hy := coords_len hr
    have hx := Lib.hid hy.1
    obtain ⟨g, cap, rfl, hg, hgB, hgc, hgm, hcx, _⟩ := hv.cons_shape (by have := hx.out; omega)
    have hcx1 := Lib.hid hcx
    clear hcx hy
    generalize hxs : coords d c0 c1 c2 c3 = xs at *
    have Hxs := Lib.hid hxs; clear hxs
    go_wp2_with fail
    refine (list_any _ _ _ _ _ _).mono ?_
    rintro e w2 hl2
    have hB2 := bcall hB hl2.below hB.size
    have hcx2 : Hid (∀ j, j < xs.length → w2.cell? ⟨g, j, none⟩ = some (.int .i64 (nth xs j))) := fun j hj => (hl2.below.cell (p := ⟨g, j, none⟩) hg).trans (hcx1.out j hj)
    clear a0 a1 a2 a3 a4 b0 b1 b2 b3 b4
    rcases hl2 with ⟨kr, v2, rfl, hv2, hb2⟩ | ⟨kr, rfl, hb2⟩
    · clear hb2 hcx1 hv
      have ky := coords_len kr
      obtain ⟨g2, cap2, rfl, hg2, _, _, hgm2, hcy, _⟩ := hv2.cons_shape (by omega)
      have hcy2 := Lib.hid hcy
      have hky := Lib.hid ky.1
      clear hcy hv2 ky
      generalize hys : coords e0 x0 x1 x2 x3 = ys at *
      have Hys := Lib.hid hys; clear hys
      have hfin : Hid (lessB d c0 c1 c2 c3 e0 x0 x1 x2 x3 = lexL xs ys) := by rw [← Hxs.out, ← Hys.out]; exact (less_lists hr kr).symm
      unfold maxLen at hgm hgm2
      clear hr kr
      go_wp2
      go_loopw [9] (fun i wr => ∃ k m : Nat, i = .int .i64 k ∧ wr = w2.drewN m ∧ k ≤ xs.length ∧ k ≤ ys.length ∧ Hid (∀ j, j < k → nth xs j = nth ys j)) (fun i wr => xs.length - (intOf i).toNat)
      case atStart => exact ⟨0, 0, rfl, rfl, Nat.zero_le _, Nat.zero_le _, fun j hj => by omega⟩
      case round =>
        obtain ⟨k, m, rfl, rfl, hk, hk2, hall⟩ := hrel
        by_cases hlt : k < xs.length
        · have gx := hcx2.out k hlt
          by_cases hlt2 : k < ys.length
          · have gy := hcy2.out k hlt2
            have hne : ((k : Int) == (ys.length : Int)) = false := by simp; omega
            by_cases hc : nth ys k < nth xs k
            · go_wp2
              go_quiet (fail)
              go_wp2
              go_returns
              exact ⟨ret_bool (by rw [hfin.out]; exact (lexL_gt hall.out hlt hlt2 hc).symm), by repeat' (first | (with_reducible refine below_drewN ?_ _) | go_grown)⟩
            · by_cases hc2 : nth xs k < nth ys k
              · go_wp2
                go_quiet (fail)
                go_wp2
                go_quiet (fail)
                go_wp2
                go_returns
                exact ⟨ret_bool (by rw [hfin.out]; exact (lexL_lt hall.out hlt hlt2 hc2).symm), by repeat' (first | (with_reducible refine below_drewN ?_ _) | go_grown)⟩
              · go_wp2
                go_quiet (fail)
                go_wp2
                go_quiet (fail)
                go_wp2
                go_roundw
                case rel => exact ⟨k + 1, _, by go_num, rfl, by omega, by omega, fun j hj => by by_cases hjk : j < k; exact hall.out j hjk; (have : j = k := by omega); subst this; omega⟩
                case measure => simp [intOf]; omega
          · have hne : ((k : Int) == (ys.length : Int)) = true := by simp; omega
            go_wp2
            go_quiet (fail)
            go_wp2
            go_returns
            exact ⟨ret_bool (by rw [hfin.out]; exact (lexL_end hall.out hk (by omega) hlt).symm), by repeat' (first | (with_reducible refine below_drewN ?_ _) | go_grown)⟩
        · go_wp2
          go_returns
          exact ⟨ret_bool (by rw [hfin.out, lexL_all hall.out (by omega) hk2]; simp; omega), by repeat' (first | (with_reducible refine below_drewN ?_ _) | go_grown)⟩
    · have hf : Hid (lessB d c0 c1 c2 c3 e0 x0 x1 x2 x3 = false) := by show lessB d c0 c1 c2 c3 e0 x0 x1 x2 x3 = false; simp [lessB, kr]
      go_wp2
      go_returns
      exact ⟨ret_bool hf.out.symm, by repeat' (first | (with_reducible refine below_drewN ?_ _) | go_grown)⟩
  · have hf : Hid (lessB d c0 c1 c2 c3 e0 x0 x1 x2 x3 = false) := by show lessB d c0 c1 c2 c3 e0 x0 x1 x2 x3 = false; simp [lessB, hr]
    clear hb1
    go_wp2_with fail
    refine (list_any _ _ _ _ _ _).mono ?_
    rintro e w2 hl2
    have hB2 := bcall hB hl2.below hB.size
    rcases hl2 with ⟨kr, v2, rfl, hv2, hb2⟩ | ⟨kr, rfl, hb2⟩
    · go_wp2
      go_returns
      exact ⟨ret_bool hf.out.symm, by repeat' (first | (with_reducible refine below_drewN ?_ _) | go_grown)⟩
    · go_wp2
      go_returns
      exact ⟨ret_bool hf.out.symm, by repeat' (first | (with_reducible refine below_drewN ?_ _) | go_grown)⟩

end Go.Proofs.YtjaahmgokiobjaaGreat
namespace Go.Proofs.YtjaahmgokiobjaaGreat
open Go.RowKit
set_option linter.unusedVariables false
set_option linter.unusedSimpArgs false
attribute [local go_sem ↓] eqTime neTime

/- the document's answers on chains: Covers, Both -/
theorem rtle_any (t u : TV) (w : World) : Calls Tryz.prog 22 #[t.val, u.val] w (Ret (.bool (t.le u)) w) := rle_any _ _ _ _ _ _ _ _ _ _ w
theorem rtlt_any (t u : TV) (w : World) : Calls Tryz.prog 50 #[t.val, u.val] w (Ret (.bool (t.lt u)) w) := rless_any _ _ _ _ _ _ _ _ _ _ w
theorem OwnTT.empty (w : World) : OwnTT w.heap.size (w.alloc (.cells #[] 29)) (.slice (some ⟨w.heap.size, 0, none⟩) 0 0) [] := World.ownsRow_lit w #[] 0 (Nat.le_refl _) (Nat.zero_le _) rfl
end Go.Proofs.YtjaahmgokiobjaaGreat
