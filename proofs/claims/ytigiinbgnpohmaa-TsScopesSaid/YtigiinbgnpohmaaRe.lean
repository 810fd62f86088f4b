import Derived.Test.YtigiinbgnpohmaaRd
namespace Go.Proofs.Ytigiinbgnpohmaa
open Go.RowKit
set_option linter.unusedVariables false
set_option linter.unusedSimpArgs false

def pick (join : Bool) (x y : Int) : Int := if join then imax x y else imin x y
/-- the first k taken together -/
def mixL (join : Bool) (xs ys : List Int) (k : Nat) : List Int := (List.zipWith (pick join) xs ys).take k ++ xs.drop k
theorem mixL_zero (join : Bool) (xs ys : List Int) : mixL join xs ys 0 = xs := by simp [mixL]
theorem mixL_len {join : Bool} {xs ys : List Int} {k : Nat} (h : xs.length = ys.length) (hk : k ≤ xs.length) : (mixL join xs ys k).length = xs.length := by
  simp [mixL, h] at *; omega
theorem mixL_nth {join : Bool} {xs ys : List Int} {k : Nat} (h : xs.length = ys.length) (hk : k < xs.length) : nth (mixL join xs ys k) k = nth xs k := by
  have h2 : k < ys.length := by omega
  have e : min k ys.length = k := by omega
  simp [nth, mixL, List.getElem?_append, List.length_take, h2, hk, h, e]
theorem mixL_succ {join : Bool} {xs ys : List Int} {k : Nat} (h : xs.length = ys.length) (hk : k < xs.length) :
    mixL join xs ys (k + 1) = (mixL join xs ys k).set k (pick join (nth xs k) (nth ys k)) := by
  have h2 : k < ys.length := by omega
  apply List.ext_getElem?
  intro j
  rw [List.getElem?_set, mixL_len h (by omega)]
  simp only [mixL, List.getElem?_append, List.length_take, List.length_zipWith, List.getElem?_take, List.getElem?_drop, List.getElem?_zipWith]
  by_cases hj : k = j
  · subst hj
    simp [hk, h2, nth]
    intro hh; omega
  · rw [if_neg hj]
    by_cases hj2 : j < k
    · rw [if_pos (by omega), if_pos (by omega), if_pos (by omega), if_pos hj2]
    · rw [if_neg (by omega), if_neg (by omega)]
      congr 1; omega
theorem mixL_all {join : Bool} {xs ys : List Int} (h : xs.length = ys.length) : mixL join xs ys xs.length = List.zipWith (pick join) xs ys := by
  simp [mixL, h, List.take_of_length_le]

theorem both_lists {d c0 c1 c2 c3 x0 x1 x2 x3 : Int} (join : Bool) (h : rightB d c0 c1 c2 c3 = true) (k : rightB d x0 x1 x2 x3 = true) :
    ofV (List.zipWith (pick join) (coords d c0 c1 c2 c3) (coords d x0 x1 x2 x3)) = bothV join d c0 c1 c2 c3 d x0 x1 x2 x3 true := by
  have hp := right_of h
  have kp := right_of k
  have hd : d = 1 ∨ d = 2 ∨ d = 3 ∨ d = 4 := by have := hp.2.1; have := hp.1; omega
  have hB : ofB (List.zipWith (pick join) (coords d c0 c1 c2 c3) (coords d x0 x1 x2 x3)) = true := by
    clear h k
    unfold ofB rightB
    apply decide_eq_true
    rcases hd with rfl | rfl | rfl | rfl
    all_goals
      cases join
      all_goals simp [coords, nth, rightP, greatestS, pick, imax, imin] at *
      all_goals (repeat' split)
      all_goals omega
  unfold ofV
  rw [hB]
  rcases hd with rfl | rfl | rfl | rfl
  all_goals simp [coords, nth, stepV, bothV, gate, bc, pick, rightP, greatestS] at *
  all_goals (cases join <;> simp [imax, imin] <;> (repeat' split) <;> (first | rfl | omega | simp <;> omega))

theorem both_no {join : Bool} {d c0 c1 c2 c3 e0 x0 x1 x2 x3 : Int} (h : pairedB d c0 c1 c2 c3 e0 x0 x1 x2 x3 = false) : bothV join d c0 c1 c2 c3 e0 x0 x1 x2 x3 (pairedB d c0 c1 c2 c3 e0 x0 x1 x2 x3) = stepV false 0 0 0 0 0 := by
  rw [h]; rfl
/-- in the loop: the first list has its first k numbers taken together, the second one is as it was -/
structure BothInv (w0 wr : World) (B b : Nat) (join : Bool) (g cap g2 : Nat) (xs ys : List Int) (k : Nat) : Prop where
  below : Below w0.heap.size w0 wr
  own : OwnI B wr (.slice (some ⟨g, 0, none⟩) xs.length cap) (mixL join xs ys k)
  ysC : ∀ j, j < ys.length → wr.cell? ⟨g2, j, none⟩ = some (.int .i64 (nth ys j))
  box : Own5 wr b (.int .i64 0) (.int .i64 0) (.int .i64 0) (.int .i64 0) (.int .i64 0)
  gB : B ≤ g
  lo : w0.heap.size ≤ b
  bB : b < B
  ne : g ≠ g2
theorem BothInv.drewN {w0 wr : World} {B b : Nat} {join : Bool} {g cap g2 : Nat} {xs ys : List Int} {k : Nat} (I : BothInv w0 wr B b join g cap g2 xs ys k) (n : Nat) : BothInv w0 (wr.drewN n) B b join g cap g2 xs ys k :=
  ⟨below_drewN I.below n, I.own, I.ysC, ⟨I.box.l0, I.box.l1, I.box.l2, I.box.l3, I.box.l4, I.box.q0, I.box.q1, I.box.q2, I.box.q3, I.box.q4⟩, I.gB, I.lo, I.bB, I.ne⟩
theorem BothInv.cells {w0 wr : World} {B b : Nat} {join : Bool} {g cap g2 : Nat} {xs ys : List Int} {k : Nat} (I : BothInv w0 wr B b join g cap g2 xs ys k) (h : xs.length = ys.length) (hk : k < xs.length) :
    wr.cell? ⟨g, k, none⟩ = some (.int .i64 (nth xs k)) ∧ wr.frozen? ⟨g, k, none⟩ = false ∧ wr.cell? ⟨g2, k, none⟩ = some (.int .i64 (nth ys k)) := by
  have hl := mixL_len (join := join) h (Nat.le_of_lt hk)
  rcases I.own.shape with ⟨hv, _⟩ | ⟨g', cap', hv, _, _, _, _, hc, hf⟩
  · simp at hv
  · simp only [Value.slice.injEq, Option.some.injEq, Addr.mk.injEq, and_true, true_and] at hv
    obtain ⟨rfl, _, rfl⟩ := hv
    refine ⟨?_, hf k, I.ysC k (by omega)⟩
    rw [hc k (by omega), mixL_nth h hk]
theorem BothInv.keep {w0 wr : World} {B b : Nat} {join : Bool} {g cap g2 : Nat} {xs ys : List Int} {k : Nat} (I : BothInv w0 wr B b join g cap g2 xs ys k) (h : xs.length = ys.length) (hk : k < xs.length)
    (hp : pick join (nth xs k) (nth ys k) = nth xs k) : BothInv w0 wr B b join g cap g2 xs ys (k + 1) := by
  have e : mixL join xs ys (k + 1) = mixL join xs ys k := by
    rw [mixL_succ h hk, hp]
    apply List.ext_getElem?
    intro j
    rw [List.getElem?_set, mixL_len h (by omega)]
    by_cases hj : k = j
    · subst hj
      have := mixL_nth (join := join) h hk
      have hl := mixL_len (join := join) h (Nat.le_of_lt hk)
      simp [nth, hk, hl] at this ⊢
      exact this.symm
    · rw [if_neg hj]
  exact ⟨I.below, by rw [e]; exact I.own, I.ysC, I.box, I.gB, I.lo, I.bB, I.ne⟩
theorem BothInv.put {w0 wr : World} {B b : Nat} {join : Bool} {g cap g2 : Nat} {xs ys : List Int} {k : Nat} (I : BothInv w0 wr B b join g cap g2 xs ys k) (h : xs.length = ys.length) (hk : k < xs.length)
    (hp : pick join (nth xs k) (nth ys k) = nth ys k) : BothInv w0 (wr.setCell ⟨g, k, none⟩ (.int .i64 (nth ys k))) B b join g cap g2 xs ys (k + 1) := by
  have hl := mixL_len (join := join) h (Nat.le_of_lt hk)
  have hl2 := mixL_len (join := join) h (Nat.succ_le_of_lt hk)
  have hown : wr.ownsRow B 3 1 (.slice (some ⟨g, 0, none⟩) xs.length cap) xs.length ((mixL join xs ys k).map (Value.int .i64)) := by have := I.own; unfold OwnI at this; rwa [hl] at this
  obtain ⟨h1, h2⟩ := World.ownsRow.stored hown k (.int .i64 (nth ys k))
  have hfar : ∀ (b' o : Nat), b' ≠ g → (wr.setCell ⟨g, k, none⟩ (.int .i64 (nth ys k))).cell? ⟨b', o, none⟩ = wr.cell? ⟨b', o, none⟩ := fun b' o hne => World.cell?_setCell_other _ _ _ _ (fun e => hne (by injection e with e1; exact e1.symm))
  have hbg : b ≠ g := by have := I.gB; have := I.bB; omega
  refine ⟨I.below.setCell (by have := I.gB; have := I.lo; have := I.bB; show w0.heap.size ≤ g; omega) _, ?_, fun j hj => (hfar g2 j (fun e => I.ne e.symm)).trans (I.ysC j hj), ?_, I.gB, I.lo, I.bB, I.ne⟩
  · unfold OwnI
    rw [hl2, mixL_succ h hk, hp, List.map_set]
    exact h1
  · exact ⟨(hfar b 0 hbg).trans I.box.l0, (hfar b 1 hbg).trans I.box.l1, (hfar b 2 hbg).trans I.box.l2, (hfar b 3 hbg).trans I.box.l3, (hfar b 4 hbg).trans I.box.l4,
      by rw [World.frozen?_setCell]; exact I.box.q0, by rw [World.frozen?_setCell]; exact I.box.q1, by rw [World.frozen?_setCell]; exact I.box.q2, by rw [World.frozen?_setCell]; exact I.box.q3, by rw [World.frozen?_setCell]; exact I.box.q4⟩

set_option maxHeartbeats 4000000 in
theorem both_any (d c0 c1 c2 c3 e0 x0 x1 x2 x3 : Int) (join : Bool) (w : World) :
    Calls Try.prog 10 #[.agg #[.int .i64 d, .int .i64 c0, .int .i64 c1, .int .i64 c2, .int .i64 c3], .agg #[.int .i64 e0, .int .i64 x0, .int .i64 x1, .int .i64 x2, .int .i64 x3], .bool join] w (Ret (bothV join d c0 c1 c2 c3 e0 x0 x1 x2 x3 (pairedB d c0 c1 c2 c3 e0 x0 x1 x2 x3)) w) := by
  go_enter Try.func10, Try.ntmps10
  go_wp2_with fail
  refine (list_any _ _ _ _ _ _).mono ?_
  rintro e w1 hl1
  have hb1 : Below _ _ w1 := hl1.below
  have hz := hb1.size
  have hB := bcall (B := w.heap.size) (a := w) (by go_grown) hb1 (by go_size)
  have hy1 := ((Own5.new _ (.int .i64 e0) (.int .i64 x0) (.int .i64 x1) (.int .i64 x2) (.int .i64 x3) 24).alloc _ (by go_size)).below hb1 (by go_size)
  have hr1 := (Own5.new _ (.int .i64 0) (.int .i64 0) (.int .i64 0) (.int .i64 0) (.int .i64 0) 24).below hb1 (by go_size)
  obtain ⟨a0, a1, a2, a3, a4, b0, b1, b2, b3, b4⟩ := hy1
  simp only [World.size_alloc] at *
  clear hb1
  rcases hl1 with ⟨hr, v, rfl, hv, hb1⟩ | ⟨hr, rfl, hb1⟩
  · have hy := coords_len hr
    have hx := Lib.hid hy.1
    obtain ⟨g, cap, rfl, hg, hgB, hgc, hgm, hcx, _⟩ := hv.cons_shape (by have := hx.out; omega)
    clear hcx hy hb1
    generalize hxs : coords d c0 c1 c2 c3 = xs at *
    have Hxs := Lib.hid hxs; clear hxs
    simp only [World.size_alloc] at hv hgB
    go_wp2_with fail
    refine (list_any _ _ _ _ _ _).mono ?_
    rintro e w2 hl2
    have hB2 := bcall hB hl2.below hB.size
    have hr2 := hr1.below hl2.below (by omega)
    clear a0 a1 a2 a3 a4 b0 b1 b2 b3 b4 hr1
    have hv2 : OwnI (w.heap.size + 1 + 1 + 1 + 1) w2 (.slice (some ⟨g, 0, none⟩) xs.length cap) xs := World.ownsRow.kept hv (World.grownBy.mk (row := none) hl2.below.os hl2.below.tape hl2.below.output hl2.below.size (fun k hk _ => hl2.below.block k hk)) (by simp [Value.ownBlock])
    clear hv
    rcases hl2 with ⟨kr, v2, rfl, hvy, hb2⟩ | ⟨kr, rfl, hb2⟩
    · have ky := coords_len kr
      have hb2s := hb2.size
      clear hb2
      obtain ⟨g2, cap2, rfl, hg2, hg2B, _, hgm2, hcy, _⟩ := hvy.cons_shape (by omega)
      have hcy2 := Lib.hid hcy
      have hky := Lib.hid ky.1
      have hd4 := Lib.hid (coords_len hr).2
      clear hcy hvy ky
      generalize hys : coords e0 x0 x1 x2 x3 = ys at *
      have Hys := Lib.hid hys; clear hys
      unfold maxLen at hgm hgm2
      by_cases hlen : xs.length = ys.length
      · have hde : d = e0 := by have h1 := hx.out; have h2 := hky.out; have := (coords_len kr).2; have := hd4.out; omega
        subst hde
        have hf : Hid (bothV join d c0 c1 c2 c3 d x0 x1 x2 x3 (pairedB d c0 c1 c2 c3 d x0 x1 x2 x3) = ofV (mixL join xs ys xs.length)) := by
          show _ = _
          rw [mixL_all hlen, ← Hxs.out, ← Hys.out, both_lists join hr kr]
          simp [pairedB, hr, kr]
        have hle : ((xs.length : Int) != (ys.length : Int)) = false := by simp [hlen]
        have hl1 : xs.length ≤ ys.length := by omega
        have hlen' := Lib.hid hlen
        have hm4 : xs.length ≤ 4 := by have h1 := hx.out; have := hd4.out; omega
        clear hlen hr kr hd4
        go_wp2
        go_loopw [12] (fun i wr => ∃ k : Nat, i = .int .i64 k ∧ k ≤ xs.length ∧ BothInv w wr (w.heap.size + 1 + 1 + 1 + 1) (w.heap.size + 1 + 1) join g cap g2 xs ys k) (fun i wr => xs.length - (intOf i).toNat)
        case atStart => exact ⟨0, rfl, Nat.zero_le _, ⟨hB2, by rw [mixL_zero]; exact hv2, hcy2.out, hr2, by omega, by omega, by omega, by omega⟩⟩
        case round =>
          obtain ⟨k, rfl, hk, I⟩ := hrel
          by_cases hlt : k < xs.length
          · obtain ⟨gx, gf, gy⟩ := I.cells hlen'.out hlt
            have hky2 : (k : Int) < ys.length := by omega
            by_cases hc : (join == decide (nth xs k < nth ys k)) = true
            · have hp := Lib.hid (show pick join (nth xs k) (nth ys k) = nth ys k by cases join <;> simp [pick, imax, imin] at hc ⊢ <;> omega)
              go_wp2
              go_quiet (fail)
              go_wp2
              go_roundw
              case rel => exact ⟨k + 1, by go_num, by omega, (I.drewN _).put hlen'.out hlt hp.out⟩
              case measure => simp [intOf]; omega
            · have hp := Lib.hid (show pick join (nth xs k) (nth ys k) = nth xs k by cases join <;> simp [pick, imax, imin] at hc ⊢ <;> omega)
              replace hc : (join == decide (nth xs k < nth ys k)) = false := by simpa using hc
              go_wp2
              go_quiet (fail)
              go_wp2
              go_roundw
              case rel => exact ⟨k + 1, by go_num, by omega, (I.drewN _).keep hlen'.out hlt hp.out⟩
              case measure => simp [intOf]; omega
          · have hke : k = xs.length := by omega
            subst hke
            have hbx := I.box
            have hbl := I.below
            have hlm := mixL_len (join := join) hlen'.out (Nat.le_refl _)
            have HL := Lib.hid hlm; clear hlm
            go_wp2_with fail
            refine (of_own wr I.own (by rw [HL.out]; omega)).mono ?_
            rintro e w3 ⟨rfl, hb3⟩
            have hs3 := hb3.size
            have hB3 := bcall hbl hb3 hbl.size
            have hlo : w.heap.size + 1 + 1 < wr.heap.size := World.block_lt_of_cell? _ _ hbx.l0
            obtain ⟨r0, r1, r2, r3, r4, s0, s1, s2, s3, s4⟩ := hbx.below hb3 hlo
            clear hb3 hbl I
            simp only [ofV, stepV] at hf ⊢
            go_wp2
            exact bodyPost_ret (v := ofV (mixL join xs ys xs.length)) (by simp [results, Try.results10, go_sem, r0, r1, r2, r3, r4]; rfl) rfl ⟨by first | (rw [hf.out]; done) | (rw [hf.out]; rfl), by repeat' (first | (with_reducible refine below_drewN ?_ _) | go_grown)⟩
      · have hle : ((xs.length : Int) != (ys.length : Int)) = true := by simp; omega
        have hf := Lib.hid (both_no (join := join) (show pairedB d c0 c1 c2 c3 e0 x0 x1 x2 x3 = false by
          by_cases hde : d = e0
          · exact absurd (by have h1 := hx.out; have h2 := hky.out; rw [h1, h2, hde]) hlen
          · simp [pairedB, hde]))
        obtain ⟨r0, r1, r2, r3, r4, s0, s1, s2, s3, s4⟩ := hr2
        go_wp2
        exact bodyPost_ret (v := (Value.tuple #[.agg #[.int .i64 0, .int .i64 0, .int .i64 0, .int .i64 0, .int .i64 0], .bool false])) (by simp [results, Try.results10, go_sem, r0, r1, r2, r3, r4]) rfl ⟨by first | (rw [hf.out]; done) | (rw [hf.out]; rfl), by repeat' (first | (with_reducible refine below_drewN ?_ _) | go_grown)⟩
    · have hf := Lib.hid (both_no (join := join) (show pairedB d c0 c1 c2 c3 e0 x0 x1 x2 x3 = false by simp [pairedB, kr]))
      obtain ⟨r0, r1, r2, r3, r4, s0, s1, s2, s3, s4⟩ := hr2
      go_wp2
      exact bodyPost_ret (v := (Value.tuple #[.agg #[.int .i64 0, .int .i64 0, .int .i64 0, .int .i64 0, .int .i64 0], .bool false])) (by simp [results, Try.results10, go_sem, r0, r1, r2, r3, r4]) rfl ⟨by first | (rw [hf.out]; done) | (rw [hf.out]; rfl), by repeat' (first | (with_reducible refine below_drewN ?_ _) | go_grown)⟩
  · have hf := Lib.hid (both_no (join := join) (show pairedB d c0 c1 c2 c3 e0 x0 x1 x2 x3 = false by simp [pairedB, hr]))
    clear hb1
    go_wp2_with fail
    refine (list_any _ _ _ _ _ _).mono ?_
    rintro e w2 hl2
    have hB2 := bcall hB hl2.below hB.size
    have hr2 := hr1.below hl2.below (by omega)
    clear a0 a1 a2 a3 a4 b0 b1 b2 b3 b4 hr1
    rcases hl2 with ⟨kr, v2, rfl, hv2, hb2⟩ | ⟨kr, rfl, hb2⟩
    · obtain ⟨r0, r1, r2, r3, r4, s0, s1, s2, s3, s4⟩ := hr2
      go_wp2
      exact bodyPost_ret (v := (Value.tuple #[.agg #[.int .i64 0, .int .i64 0, .int .i64 0, .int .i64 0, .int .i64 0], .bool false])) (by simp [results, Try.results10, go_sem, r0, r1, r2, r3, r4]) rfl ⟨by first | (rw [hf.out]; done) | (rw [hf.out]; rfl), by repeat' (first | (with_reducible refine below_drewN ?_ _) | go_grown)⟩
    · obtain ⟨r0, r1, r2, r3, r4, s0, s1, s2, s3, s4⟩ := hr2
      go_wp2
      exact bodyPost_ret (v := (Value.tuple #[.agg #[.int .i64 0, .int .i64 0, .int .i64 0, .int .i64 0, .int .i64 0], .bool false])) (by simp [results, Try.results10, go_sem, r0, r1, r2, r3, r4]) rfl ⟨by first | (rw [hf.out]; done) | (rw [hf.out]; rfl), by repeat' (first | (with_reducible refine below_drewN ?_ _) | go_grown)⟩
end Go.Proofs.Ytigiinbgnpohmaa
