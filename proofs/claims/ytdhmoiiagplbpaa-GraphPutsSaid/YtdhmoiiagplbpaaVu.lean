/- slices.EqualFunc on nodes by graph.sameNode; graph.Same -/
import Derived.Test.YtdhmoiiagplbpaaVt
namespace Go.Proofs.Ytdhmoiiagplbpaa
open Go.RowKit
set_option linter.unusedVariables false
set_option linter.unusedSimpArgs false

abbrev sameF : Value := .func (.func 27) #[] #[]
set_option maxRecDepth 100000 in
set_option maxHeartbeats 8000000 in
theorem snodes_row (xs ys : List NW) (gs hs : List GN) (b off cap b2 off2 cap2 : Nat) (w : World) (hl : xs.length ≤ 900000) (hlen : xs.length = ys.length) (hb : b < w.heap.size) (hr : RW.Row w b off xs) (hb2 : b2 < w.heap.size) (hr2 : RW.Row w b2 off2 ys) (ha : areN w xs gs) (ha2 : areN w ys hs) (hp : ∀ x ∈ gs, x.prog.length ≤ 900000) :
    Calls Try.prog 26 #[.slice (some ⟨b, off, none⟩) xs.length cap, .slice (some ⟨b2, off2, none⟩) ys.length cap2, sameF] w (Ret (.bool (decide (gs = hs))) w) := by
  have hrow : Hid (∀ (W : World), Below w.heap.size w W → ∀ j, j < xs.length → _) := fun W hW j hj => atW (hr.below hW hb) j hj
  have hrow2 : Hid (∀ (W : World), Below w.heap.size w W → ∀ j, j < ys.length → _) := fun W hW j hj => atW (hr2.below hW hb2) j hj
  have HCall := Lib.hid (fun (W : World) (hW : Below w.heap.size w W) (j : Nat) (hj : j < xs.length) => snode_any xs[j]! ys[j]! gs[j]! hs[j]! W ((ha.2 j (by rw [← ha.1]; exact hj)).below hW) ((ha2.2 j (by rw [← ha2.1, ← hlen]; exact hj)).below hW) (hp _ (by rw [getElem!_pos gs j (by rw [← ha.1]; exact hj)]; exact List.getElem_mem _)))
  have HG := Lib.hid ha.1
  have HH := Lib.hid (hlen.trans ha2.1)
  clear hr hr2 ha ha2 hp
  rw [← hlen]
  generalize hn : xs.length = n at hl hlen
  have HN := Lib.hid hn
  have HM := Lib.hid hlen
  clear hn hlen
  generalize hres : decide (gs = hs) = res
  have HR := Lib.hid hres
  clear hres
  have hnn : ((n : Int) != (n : Int)) = false := by simp
  go_enter Try.func26, Try.ntmps26
  go_wp2
  go_loopg [17] n (fun gg i wr => ∃ k : Nat, k ≤ n ∧ n - k ≤ gg ∧ i = .int .i64 k ∧ Hid (Below w.heap.size w wr) ∧ Hid (gs.take k = hs.take k))
  case atStart => exact ⟨0, Nat.zero_le _, by omega, rfl, (Below.refl _ _), rfl⟩
  case round =>
    obtain ⟨k, hkn, hg, rfl, HB, HC⟩ := hrel
    by_cases hlt : k < n
    · have hlz : (k : Int) < (n : Int) := by omega
      have hc := hrow.out wr HB.out k (by rw [HN.out]; exact hlt)
      have hc2 := hrow2.out wr HB.out k (by rw [← HM.out]; exact hlt)
      have HS := Lib.hid (fun (W : World) (hW : Below w.heap.size w W) => HCall.out W hW k (by rw [HN.out]; exact hlt))
      have hgo := fun (h : gs[k]! = hs[k]!) => show gs.take (k + 1) = hs.take (k + 1) by rw [take_getA gs k (by rw [← HG.out, HN.out]; exact hlt), take_getA hs k (by rw [← HH.out, HN.out]; exact hlt), HC.out, h]
      have hno := fun (h : ¬ gs[k]! = hs[k]!) => show res = false from by rw [← HR.out]; exact decide_eq_false (fun e => h (by rw [e]))
      generalize xs[k]! = x at *
      generalize ys[k]! = y at *
      generalize gs[k]! = g at *
      generalize hs[k]! = h at *
      obtain ⟨k1, s1, a1, p1, n1, c1⟩ := x
      obtain ⟨k2, s2, a2, p2, n2, c2⟩ := y
      obtain ⟨x0, x1, x2, x3⟩ := hc
      obtain ⟨y0, y1, y2, y3⟩ := hc2
      simp only at x0 x1 x2 x3 y0 y1 y2 y3
      have lb : b2 < wr.heap.size := Nat.lt_of_lt_of_le hb2 HB.out.size
      have y0 : (wr.alloc (.cells #[.int .i64 k1, .int .i64 s1, .int .i64 a1, .slice p1 n1 c1] 46)).cell? ⟨b2, off2 + k * 4, none⟩ = some (.int .i64 k2) := (World.cell?_of_block (Below.heap_alloc wr _ b2 lb)).trans y0
      have y1 : (wr.alloc (.cells #[.int .i64 k1, .int .i64 s1, .int .i64 a1, .slice p1 n1 c1] 46)).cell? ⟨b2, off2 + k * 4 + 1, none⟩ = some (.int .i64 s2) := (World.cell?_of_block (Below.heap_alloc wr _ b2 lb)).trans y1
      have y2 : (wr.alloc (.cells #[.int .i64 k1, .int .i64 s1, .int .i64 a1, .slice p1 n1 c1] 46)).cell? ⟨b2, off2 + k * 4 + 2, none⟩ = some (.int .i64 a2) := (World.cell?_of_block (Below.heap_alloc wr _ b2 lb)).trans y2
      have y3 : (wr.alloc (.cells #[.int .i64 k1, .int .i64 s1, .int .i64 a1, .slice p1 n1 c1] 46)).cell? ⟨b2, off2 + k * 4 + 3, none⟩ = some (.slice p2 n2 c2) := (World.cell?_of_block (Below.heap_alloc wr _ b2 lb)).trans y3
      have HB0 := Lib.hid ((HB.out.alloc HB.out.size (.cells #[.int .i64 k1, .int .i64 s1, .int .i64 a1, .slice p1 n1 c1] 46)).alloc (by simp; have := HB.out.size; omega) (.cells #[.int .i64 k2, .int .i64 s2, .int .i64 a2, .slice p2 n2 c2] 46))
      clear hrow hrow2 HCall
      by_cases hgh : g = h
      · have HGo := Lib.hid (hgo hgh)
        have hd : decide (g = h) = true := decide_eq_true hgh
        rw [hd] at HS
        clear hgo hno hgh hd
        go_wp2_with fail
        refine (HS.out _ HB0.out).mono ?_
        rintro e w1 ⟨rfl, hb1⟩
        have HB1 := Lib.hid (HB0.out.trans (hb1.mono HB0.out.size))
        clear hb1
        go_wp2
        go_roundg (n - (k + 1))
        case measure => omega
        case rel => exact ⟨k + 1, by omega, by omega, by go_num, HB1.out, HGo.out⟩
      · have HNo := Lib.hid (hno hgh)
        have hd : decide (g = h) = false := decide_eq_false hgh
        rw [hd] at HS
        clear hgo hno hgh hd
        go_wp2_with fail
        refine (HS.out _ HB0.out).mono ?_
        rintro e w1 ⟨rfl, hb1⟩
        have HB1 := Lib.hid (HB0.out.trans (hb1.mono HB0.out.size))
        clear hb1
        go_wp2
        go_returns
        exact ⟨ret_bool HNo.out.symm, HB1.out⟩
    · have hlz : ¬ (k : Int) < (n : Int) := by omega
      have : k = n := by omega
      subst this
      have HX : Hid (res = true) := by
        have h := HC.out
        rw [List.take_of_length_le (by rw [← HG.out, HN.out]; exact Nat.le_refl _), List.take_of_length_le (by rw [← HH.out, HN.out]; exact Nat.le_refl _)] at h
        show res = true
        rw [← HR.out]
        exact decide_eq_true h
      clear HC hrow hrow2 HCall
      go_wp2
      go_returns
      exact ⟨ret_bool HX.out.symm, HB.out⟩
set_option maxHeartbeats 2000000 in
theorem snodes_no (n m : Nat) (p q : Option Addr) (cap cap2 : Nat) (w : World) (hlen : n ≠ m) :
    Calls Try.prog 26 #[.slice p n cap, .slice q m cap2, sameF] w (Ret (.bool false) w) := by
  have hne : ¬ (n : Int) = (m : Int) := by omega
  have hneb : ((n : Int) != (m : Int)) = true := by simpa using hne
  go_enter Try.func26, Try.ntmps26
  go_wp2
  go_returns
  exact ⟨rfl, Below.refl _ _⟩
set_option maxHeartbeats 2000000 in
theorem snodes_nil (p q : Option Addr) (cap cap2 : Nat) (w : World) :
    Calls Try.prog 26 #[.slice p 0 cap, .slice q 0 cap2, sameF] w (Ret (.bool true) w) := by
  go_enter Try.func26, Try.ntmps26
  go_wp2
  refine wp_loop_rounds 1 ?_
  rw [rounds_succ]
  go_wp2
  go_returns
  exact ⟨rfl, Below.refl _ _⟩
theorem snodes_any (gs hs : List GN) (va vb : Value) (w : World) (h1 : gs.length ≤ 900000) (hp : ∀ x ∈ gs, x.prog.length ≤ 900000) (ha : IsNs w va gs) (hb : IsNs w vb hs) :
    Calls Try.prog 26 #[va, vb, sameF] w (Ret (.bool (decide (gs = hs))) w) := by
  obtain ⟨xs, ax, an⟩ := ha
  obtain ⟨ys, bx, bn⟩ := hb
  by_cases hlen : xs.length = ys.length
  · rcases ax with ⟨rfl, p, cap, rfl, _⟩ | ⟨hne, b, off, cap, rfl, hl, hr⟩
    · obtain rfl : ys = [] := List.length_eq_zero_iff.1 hlen.symm
      obtain ⟨q, d, rfl⟩ := bx.slice
      obtain rfl : gs = [] := List.length_eq_zero_iff.1 an.1.symm
      obtain rfl : hs = [] := List.length_eq_zero_iff.1 bn.1.symm
      exact snodes_nil p q cap d w
    · rcases bx with ⟨rfl, q, d, rfl, _⟩ | ⟨_, b2, off2, cap2, rfl, hl2, hr2⟩
      · exact absurd (List.length_eq_zero_iff.1 hlen) hne
      · exact snodes_row xs ys gs hs b off cap b2 off2 cap2 w (by rw [an.1]; exact h1) hlen hl hr hl2 hr2 an bn hp
  · obtain ⟨p, c, rfl⟩ := ax.slice
    obtain ⟨q, d, rfl⟩ := bx.slice
    rw [decide_eq_false (fun e => hlen (by rw [an.1, bn.1, e]))]
    exact snodes_no xs.length ys.length p q c d w hlen
end Go.Proofs.Ytdhmoiiagplbpaa
