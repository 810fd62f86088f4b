/- the document's Fits -/
import Derived.Test.YtdhmoiiagplbpaaVg
namespace Go.Proofs.Ytdhmoiiagplbpaa
open Go.RowKit
set_option linter.unusedVariables false
set_option linter.unusedSimpArgs false

def okP (g : GV) (j : Nat) : Prop := if j = 0 then g.parent[0]! = -1 ∧ g.bound[0]! = 0 else lowN g.parent[j]! ∧ lowN g.bound[j]!
theorem tail_at (xs : List Int) (h : 1 ≤ xs.length) : (∀ x ∈ xs.tail, lowN x) ↔ ∀ j, 1 ≤ j → j < xs.length → lowN xs[j]! := by
  cases xs with
  | nil => simp at h
  | cons a xs =>
    simp only [List.tail_cons]
    constructor
    · intro q j h1 h2
      obtain ⟨i, rfl⟩ : ∃ i, j = i + 1 := ⟨j - 1, by omega⟩
      have hi : i < xs.length := by simpa using h2
      have : (a :: xs)[i + 1]! = xs[i] := by rw [getElem!_pos (a :: xs) (i + 1) h2]; rfl
      rw [this]
      exact q _ (List.getElem_mem hi)
    · intro q x hx
      obtain ⟨i, hi, rfl⟩ := List.getElem_of_mem hx
      have := q (i + 1) (by omega) (by simpa using hi)
      rw [getElem!_pos (a :: xs) (i + 1) (by simpa using hi)] at this
      exact this
theorem all_at {α : Type} [Inhabited α] (xs : List α) (P : α → Prop) : (∀ x ∈ xs, P x) ↔ ∀ j, j < xs.length → P xs[j]! := by
  constructor
  · intro q j hj
    exact q _ (by rw [getElem!_pos xs j hj]; exact List.getElem_mem hj)
  · intro q x hx
    obtain ⟨i, hi, rfl⟩ := List.getElem_of_mem hx
    have := q i hi
    rw [getElem!_pos xs i hi] at this
    exact this
theorem fitsN_iff (x : GN) : fitsN x ↔ lowN x.kind ∧ lowN x.scope ∧ x.prog.length ≤ 64 ∧ ∀ j, j < x.prog.length → lowN x.prog[j]!.op := by
  unfold fitsN
  rw [all_at x.prog (fun y => lowN y.op)]
def dimG (g : GV) : Prop := 1 ≤ g.parent.length ∧ g.parent.length ≤ 8 ∧ g.parent.length = g.bound.length ∧ g.nodes.length ≤ 32 ∧ g.edges.length ≤ 64
theorem fitsG_iff (g : GV) : fitsG g ↔ dimG g ∧ (∀ j, j < g.parent.length → okP g j) ∧ (∀ j, j < g.nodes.length → fitsN g.nodes[j]!) ∧ (∀ j, j < g.edges.length → fitsE g.edges[j]!) := by
  unfold fitsG dimG okP
  rw [all_at g.nodes, all_at g.edges]
  constructor
  · rintro ⟨h1, h2, h3, h4, h5, h6, h7, h8, h9, h10, h11⟩
    refine ⟨⟨h1, h2, h3, h4, h5⟩, fun j hj => ?_, h10, h11⟩
    split
    · exact ⟨h6, h7⟩
    · exact ⟨(tail_at _ h1).1 h8 j (by omega) hj, (tail_at _ (by omega)).1 h9 j (by omega) (by omega)⟩
  · rintro ⟨⟨h1, h2, h3, h4, h5⟩, h6, h7, h8⟩
    have h0 := h6 0 (by omega)
    rw [if_pos rfl] at h0
    refine ⟨h1, h2, h3, h4, h5, h0.1, h0.2, (tail_at _ h1).2 (fun j hj hl => ?_), (tail_at _ (by omega)).2 (fun j hj hl => ?_), h7, h8⟩
    · have := h6 j hl
      rw [if_neg (by omega)] at this
      exact this.1
    · have := h6 j (by omega)
      rw [if_neg (by omega)] at this
      exact this.2
set_option maxRecDepth 100000 in
set_option maxHeartbeats 16000000 in
theorem rfits_any (g : GV) (v : Value) (w : World) (h : IsG w v g) : Calls Try.prog 22 #[v] w (Ret (.bool (decide (fitsG g))) w) := by
  obtain ⟨pv, bv, nv, ev, rfl, h1, h2, ⟨xs, h3, h3n, h3a⟩, h4⟩ := h
  obtain ⟨p1, c1, rfl, o1⟩ := h1.opened
  obtain ⟨p2, c2, rfl, o2⟩ := h2.opened
  obtain ⟨p3, c3, rfl, o3⟩ := h3.opened
  obtain ⟨p4, c4, rfl, o4⟩ := h4.opened
  have HLow := Lib.hid (fun n W => rlow_any n W)
  have HB0 := Lib.hid ((Below.refl w.heap.size w).alloc (Nat.le_refl _) (.cells #[.slice p1 g.parent.length c1, .slice p2 g.bound.length c2, .slice p3 xs.length c3, .slice p4 g.edges.length c4] 26))
  have HX : Hid (rowOf (w.alloc (.cells #[.slice p1 g.parent.length c1, .slice p2 g.bound.length c2, .slice p3 xs.length c3, .slice p4 g.edges.length c4] 26)) w.heap.size = some #[.slice p1 g.parent.length c1, .slice p2 g.bound.length c2, .slice p3 xs.length c3, .slice p4 g.edges.length c4]) := rowOf_alloc_at _ _ _ rfl
  rw [h3n] at HB0 HX ⊢
  have hro1 : Hid (∀ (W : World), Below w.heap.size w W → ∀ j, j < g.parent.length → ∃ b off, p1 = some ⟨b, off, none⟩ ∧ W.cell? ⟨b, off + j, none⟩ = some (.int .i64 g.parent[j]!)) := fun W hW j hj => by
    obtain ⟨b, off, e, hb, hr⟩ := o1 j hj
    exact ⟨b, off, e, atN (hr.below hW hb) j hj⟩
  have hro2 : Hid (∀ (W : World), Below w.heap.size w W → ∀ j, j < g.bound.length → ∃ b off, p2 = some ⟨b, off, none⟩ ∧ W.cell? ⟨b, off + j, none⟩ = some (.int .i64 g.bound[j]!)) := fun W hW j hj => by
    obtain ⟨b, off, e, hb, hr⟩ := o2 j hj
    exact ⟨b, off, e, atN (hr.below hW hb) j hj⟩
  have hro3 : Hid (∀ (W : World), Below w.heap.size w W → ∀ j, j < g.nodes.length → ∃ b off p' c', p3 = some ⟨b, off, none⟩ ∧ W.cell? ⟨b, off + j * 4, none⟩ = some (.int .i64 g.nodes[j]!.kind) ∧ W.cell? ⟨b, off + j * 4 + 1, none⟩ = some (.int .i64 g.nodes[j]!.scope) ∧ W.cell? ⟨b, off + j * 4 + 2, none⟩ = some (.int .i64 g.nodes[j]!.arg) ∧ W.cell? ⟨b, off + j * 4 + 3, none⟩ = some (.slice p' g.nodes[j]!.prog.length c') ∧ (∀ W', Below w.heap.size w W' → ∀ i, i < g.nodes[j]!.prog.length → ∃ b2 of2, p' = some ⟨b2, of2, none⟩ ∧ W'.cell? ⟨b2, of2 + i * 2, none⟩ = some (.int .i64 g.nodes[j]!.prog[i]!.op))) := fun W hW j hj => by
    obtain ⟨b, off, e, hb, hr⟩ := o3 j (by omega)
    have r1 := atW (hr.below hW hb) j (by omega)
    have n1 := h3a j hj
    have l1 := n1.len
    obtain ⟨k1, k2, k3, k4⟩ := n1
    rw [k1, k2, k3, l1] at r1
    rw [l1] at k4
    refine ⟨b, off, _, _, e, r1.1, r1.2.1, r1.2.2.1, r1.2.2.2, fun W' hW' i hi => ?_⟩
    obtain ⟨pp, cc, e2, op⟩ := k4.opened
    simp only [Value.slice.injEq] at e2
    obtain ⟨b2, of2, e3, hb2, hr2⟩ := op i hi
    exact ⟨b2, of2, e2.1.trans e3, (atC7 (hr2.below hW' hb2) i hi).1⟩
  have hro4 : Hid (∀ (W : World), Below w.heap.size w W → ∀ j, j < g.edges.length → ∃ b off, p4 = some ⟨b, off, none⟩ ∧ W.cell? ⟨b, off + j * 4, none⟩ = some (.int .i64 g.edges[j]!.src) ∧ W.cell? ⟨b, off + j * 4 + 1, none⟩ = some (.int .i64 g.edges[j]!.dst) ∧ W.cell? ⟨b, off + j * 4 + 2, none⟩ = some (.int .i64 g.edges[j]!.port) ∧ W.cell? ⟨b, off + j * 4 + 3, none⟩ = some (.bool g.edges[j]!.ex)) := fun W hW j hj => by
    obtain ⟨b, off, e, hb, hr⟩ := o4 j hj
    exact ⟨b, off, e, atE (hr.below hW hb) j hj⟩
  have hiff := fitsG_iff g
  have hres : ∀ (b : Bool), (b = true ↔ fitsG g) → decide (fitsG g) = b := fun b hb => by
    cases b
    · exact decide_eq_false (fun e => by have := hb.2 e; cases this)
    · exact decide_eq_true (hb.1 rfl)
  have hno0 : ¬ dimG g → decide (fitsG g) = false := fun q => decide_eq_false (fun e => q (hiff.1 e).1)
  have hno1 : ∀ j, j < g.parent.length → ¬ okP g j → decide (fitsG g) = false := fun j hj q => decide_eq_false (fun e => q ((hiff.1 e).2.1 j hj))
  have hno2 : ∀ j, j < g.nodes.length → ¬ fitsN g.nodes[j]! → decide (fitsG g) = false := fun j hj q => decide_eq_false (fun e => q ((hiff.1 e).2.2.1 j hj))
  have hno3 : ∀ j, j < g.edges.length → ¬ fitsE g.edges[j]! → decide (fitsG g) = false := fun j hj q => decide_eq_false (fun e => q ((hiff.1 e).2.2.2 j hj))
  have hyes : dimG g → (∀ j, j < g.parent.length → okP g j) → (∀ j, j < g.nodes.length → fitsN g.nodes[j]!) → (∀ j, j < g.edges.length → fitsE g.edges[j]!) → decide (fitsG g) = true := fun q1 q2 q3 q4 => decide_eq_true (hiff.2 ⟨q1, q2, q3, q4⟩)
  have HNo1 := Lib.hid hno1; have HNo2 := Lib.hid hno2; have HNo3 := Lib.hid hno3
  unfold dimG at hno0 hyes
  have HNo0 := Lib.hid hno0; have HYes := Lib.hid hyes
  clear h1 h2 h3 h4 h3a h3n o1 o2 o3 o4 hiff hres hno0 hno1 hno2 hno3 hyes
  generalize decide (fitsG g) = res at *
  generalize hL1 : g.parent.length = n1 at *
  generalize hL2 : g.bound.length = n2 at *
  generalize hL3 : g.nodes.length = n3 at *
  generalize hL4 : g.edges.length = n4 at *
  clear hL1 hL2 hL3 hL4
  by_cases hdim : 1 ≤ n1 ∧ n1 ≤ 8 ∧ n1 = n2 ∧ n3 ≤ 32 ∧ n4 ≤ 64
  · obtain ⟨q1, q2, q3, q4, q5⟩ := hdim
    subst q3
    have HYes2 := Lib.hid (HYes.out ⟨q1, q2, rfl, q4, q5⟩)
    have b1 : ¬ (n1 : Int) < 1 := by omega
    have b2 : ¬ (n1 : Int) > 8 := by omega
    have b3 : ((n1 : Int) != (n1 : Int)) = false := by simp
    have b4 : ¬ (n3 : Int) > 32 := by omega
    have b5 : ¬ (n4 : Int) > 64 := by omega
    clear HNo0 HYes
    go_enter Try.func22, Try.ntmps22
    go_wp2
    go_loopg [3] n1 (fun gg i wr => ∃ k : Nat, k ≤ n1 ∧ n1 - k ≤ gg ∧ i = .int .i64 k ∧ Hid (Below w.heap.size w wr) ∧ Hid (rowOf wr w.heap.size = some #[.slice p1 n1 c1, .slice p2 n1 c2, .slice p3 n3 c3, .slice p4 n4 c4]) ∧ Hid (∀ j, j < k → okP g j))
    case atStart => exact ⟨0, Nat.zero_le _, by omega, rfl, HB0.out, HX.out, fun j hj => absurd hj (by omega)⟩
    case round =>
      obtain ⟨k, hkn, hg, rfl, HB, HX1, HC⟩ := hrel
      have d0 : wr.cell? ⟨w.heap.size, 0, none⟩ = some (.slice p1 n1 c1) := rowOf_cell HX1.out 0
      have d1 : wr.cell? ⟨w.heap.size, 1, none⟩ = some (.slice p2 n1 c2) := rowOf_cell HX1.out 1
      by_cases hlt : k < n1
      · have hlz : (k : Int) < (n1 : Int) := by omega
        obtain ⟨b1, o1, rfl, x0⟩ := hro1.out wr HB.out k hlt
        obtain ⟨b2, o2, rfl, y0⟩ := hro2.out wr HB.out k hlt
        have hnx := HNo1.out k hlt
        have hyx := fun (e : okP g k) => show ∀ j, j < k + 1 → okP g j from fun j hj => by
          by_cases q : j = k
          · rw [q]; exact e
          · exact HC.out j (by omega)
        unfold okP at hnx
        have hyx : (if k = 0 then g.parent[0]! = -1 ∧ g.bound[0]! = 0 else lowN g.parent[k]! ∧ lowN g.bound[k]!) → ∀ j, j < k + 1 → okP g j := hyx
        by_cases hk0 : k = 0
        · subst hk0
          rw [if_pos rfl] at hnx hyx
          rw [Nat.add_zero] at x0 y0
          generalize g.parent[0]! = x at *
          generalize g.bound[0]! = y at *
          have HNx := Lib.hid hnx; have HYx := Lib.hid hyx
          clear hnx hyx hro1 hro2 hro3 hro4 HNo1 HNo2 HNo3 HYes2 HC
          by_cases e1 : x = -1
          · subst e1
            by_cases e2 : y = 0
            · subst e2
              have HY2 := Lib.hid (HYx.out ⟨rfl, rfl⟩)
              go_wp2
              go_roundg (n1 - 1)
              case measure => omega
              case rel => exact ⟨1, by omega, by omega, by go_num, HB.out, HX1.out, HY2.out⟩
            · have f2 : (y != 0) = true := by simpa using e2
              have HN2 := Lib.hid (HNx.out (fun q => e2 q.2))
              go_wp2
              go_returns
              exact ⟨retB HN2.out.symm, HB.out⟩
          · have f1 : (x != -1) = true := by simpa using e1
            have HN2 := Lib.hid (HNx.out (fun q => e1 q.1))
            go_wp2
            go_returns
            exact ⟨retB HN2.out.symm, HB.out⟩
        · rw [if_neg hk0] at hnx hyx
          have hkb : ((k : Int) == 0) = false := by simp; omega
          have hkp : (k : Int) > 0 := by omega
          generalize g.parent[k]! = x at *
          generalize g.bound[k]! = y at *
          have HNx := Lib.hid hnx; have HYx := Lib.hid hyx
          have HLx := Lib.hid (HLow.out x); have HLy := Lib.hid (HLow.out y)
          clear hnx hyx hro1 hro2 hro3 hro4 HNo1 HNo2 HNo3 HYes2 HC hk0 HLow
          by_cases e1 : lowN x
          · rw [decide_eq_true e1] at HLx
            by_cases e2 : lowN y
            · rw [decide_eq_true e2] at HLy
              have HY2 := Lib.hid (HYx.out ⟨e1, e2⟩)
              clear e1 e2 HNx HYx
              go_wp2_with fail
              refine (HLx.out _).mono ?_
              rintro e w4 ⟨rfl, rfl⟩
              go_wp2_with fail
              refine (HLy.out _).mono ?_
              rintro e w4 ⟨rfl, rfl⟩
              go_wp2
              go_roundg (n1 - (k + 1))
              case measure => omega
              case rel => exact ⟨k + 1, by omega, by omega, by go_num, HB.out, HX1.out, HY2.out⟩
            · rw [decide_eq_false e2] at HLy
              have HN2 := Lib.hid (HNx.out (fun q => e2 q.2))
              clear e1 e2 HNx HYx
              go_wp2_with fail
              refine (HLx.out _).mono ?_
              rintro e w4 ⟨rfl, rfl⟩
              go_wp2_with fail
              refine (HLy.out _).mono ?_
              rintro e w4 ⟨rfl, rfl⟩
              go_wp2
              go_returns
              exact ⟨retB HN2.out.symm, HB.out⟩
          · rw [decide_eq_false e1] at HLx
            have HN2 := Lib.hid (HNx.out (fun q => e1 q.1))
            clear e1 HNx HYx
            go_wp2_with fail
            refine (HLx.out _).mono ?_
            rintro e w4 ⟨rfl, rfl⟩
            go_wp2
            go_returns
            exact ⟨retB HN2.out.symm, HB.out⟩
      · have hlz : ¬ (k : Int) < (n1 : Int) := by omega
        obtain rfl : k = n1 := by omega
        have HY1 := Lib.hid (HYes2.out HC.out)
        clear hro1 hro2 HNo1 HC HYes2 HB0 HX
        go_wp2
        clear d0 d1
        go_loopg [4] n3 (fun gg i wr => ∃ k2 : Nat, k2 ≤ n3 ∧ n3 - k2 ≤ gg ∧ i = .int .i64 k2 ∧ Hid (Below w.heap.size w wr) ∧ Hid (rowOf wr w.heap.size = some #[.slice p1 k c1, .slice p2 k c2, .slice p3 n3 c3, .slice p4 n4 c4]) ∧ Hid (∀ j, j < k2 → fitsN g.nodes[j]!))
        case atStart => exact ⟨0, Nat.zero_le _, by omega, rfl, HB.out, HX1.out, fun j hj => absurd hj (by omega)⟩
        case round =>
          obtain ⟨k2, hkn, hg, rfl, HB, HX1, HC⟩ := hrel
          have d2 : wr.cell? ⟨w.heap.size, 2, none⟩ = some (.slice p3 n3 c3) := rowOf_cell HX1.out 2
          by_cases hlt : k2 < n3
          · have hlz : (k2 : Int) < (n3 : Int) := by omega
            obtain ⟨b, off, p', c', rfl, x0, x1, x2, x3, hin⟩ := hro3.out wr HB.out k2 hlt
            have hnx := HNo2.out k2 hlt
            have hyx := fun (e : fitsN g.nodes[k2]!) => show ∀ j, j < k2 + 1 → fitsN g.nodes[j]! from fun j hj => by
              by_cases q : j = k2
              · rw [q]; exact e
              · exact HC.out j (by omega)
            generalize g.nodes[k2]! = x at *
            obtain ⟨xk, xs, xa, xp⟩ := x
            simp only at x0 x1 x2 x3 hin
            have hnx : ¬ (lowN xk ∧ lowN xs ∧ xp.length ≤ 64 ∧ ∀ j, j < xp.length → lowN xp[j]!.op) → res = false := fun e => hnx (fun q => e ((fitsN_iff _).1 q))
            have hyx : (lowN xk ∧ lowN xs ∧ xp.length ≤ 64 ∧ ∀ j, j < xp.length → lowN xp[j]!.op) → ∀ j, j < k2 + 1 → fitsN g.nodes[j]! := fun e => hyx ((fitsN_iff _).2 e)
            have HNx := Lib.hid hnx; have HYx := Lib.hid hyx; have HIn := Lib.hid hin
            have HLx := Lib.hid (HLow.out xk); have HLy := Lib.hid (HLow.out xs)
            have HB1 := Lib.hid (HB.out.alloc HB.out.size (.cells #[.int .i64 xk, .int .i64 xs, .int .i64 xa, .slice p' xp.length c'] 46))
            have HX2 := Lib.hid (row_old (o := .cells #[.int .i64 xk, .int .i64 xs, .int .i64 xa, .slice p' xp.length c'] 46) HX1.out)
            have hbx : rowOf (wr.alloc (.cells #[.int .i64 xk, .int .i64 xs, .int .i64 xa, .slice p' xp.length c'] 46)) wr.heap.size = some #[.int .i64 xk, .int .i64 xs, .int .i64 xa, .slice p' xp.length c'] := rowOf_alloc_at _ _ _ rfl
            have HBx := Lib.hid hbx
            clear hnx hyx hin hro3 HNo2 HC hbx
            generalize hm : xp.length = m at *
            clear hm
            by_cases e1 : lowN xk
            · rw [decide_eq_true e1] at HLx
              by_cases e2 : lowN xs
              · rw [decide_eq_true e2] at HLy
                by_cases e3 : m ≤ 64
                · have b6 : ¬ (m : Int) > 64 := by omega
                  have HN3 := Lib.hid (fun (j : Nat) (hj : j < m) (q : ¬ lowN xp[j]!.op) => HNx.out (fun z => q (z.2.2.2 j hj)))
                  have HY3 := Lib.hid (fun (q : ∀ j, j < m → lowN xp[j]!.op) => HYx.out ⟨e1, e2, e3, q⟩)
                  clear e1 e2 e3 HNx HYx HX1
                  go_wp2_with fail
                  refine (HLx.out _).mono ?_
                  rintro e w4 ⟨rfl, rfl⟩
                  go_wp2_with fail
                  refine (HLy.out _).mono ?_
                  rintro e w4 ⟨rfl, rfl⟩
                  clear x0 x1 x2 x3 HLx HLy d2
                  go_upto_region 14 with (fail)
                  refine gen_world (fun W => Below w.heap.size w W ∧ rowOf W w.heap.size = some #[.slice p1 k c1, .slice p2 k c2, .slice (some ⟨b, off, none⟩) n3 c3, .slice p4 n4 c4] ∧ rowOf W wr.heap.size = some #[.int .i64 xk, .int .i64 xs, .int .i64 xa, .slice p' m c']) ⟨HB1.out, HX2.out, HBx.out⟩ ?_
                  rintro w5 ⟨hB5, hX5, hBx5⟩
                  have HB5 := Lib.hid hB5; have HX5 := Lib.hid hX5; have HBx5 := Lib.hid hBx5
                  clear hB5 hX5 hBx5 HB1 HX2 HBx HB
                  generalize wr.heap.size = i5 at *
                  go_wp2_with fail
                  go_loopg [6] m (fun gg i wr => ∃ k3 : Nat, k3 ≤ m ∧ m - k3 ≤ gg ∧ i = .int .i64 k3 ∧ Hid (Below w.heap.size w wr) ∧ Hid (rowOf wr w.heap.size = some #[.slice p1 k c1, .slice p2 k c2, .slice (some ⟨b, off, none⟩) n3 c3, .slice p4 n4 c4]) ∧ Hid (rowOf wr i5 = some #[.int .i64 xk, .int .i64 xs, .int .i64 xa, .slice p' m c']) ∧ Hid (∀ j, j < k3 → lowN xp[j]!.op))
                  case atStart => exact ⟨0, Nat.zero_le _, by omega, rfl, HB5.out, HX5.out, HBx5.out, fun j hj => absurd hj (by omega)⟩
                  case round =>
                    obtain ⟨k3, hkn3, hg3, rfl, HB6, HX6, HBx6, HC3⟩ := hrel
                    have t3 : wr.cell? ⟨i5, 3, none⟩ = some (.slice p' m c') := rowOf_cell HBx6.out 3
                    by_cases hlt3 : k3 < m
                    · have hlz3 : (k3 : Int) < (m : Int) := by omega
                      obtain ⟨b7, of7, rfl, z0⟩ := HIn.out wr HB6.out k3 hlt3
                      have hn3 := HN3.out k3 hlt3
                      have hy3 := fun (e : lowN xp[k3]!.op) => show ∀ j, j < k3 + 1 → lowN xp[j]!.op from fun j hj => by
                        by_cases q : j = k3
                        · rw [q]; exact e
                        · exact HC3.out j (by omega)
                      generalize xp[k3]!.op = z at *
                      have HLz := Lib.hid (HLow.out z)
                      have HNz := Lib.hid hn3; have HYz := Lib.hid hy3
                      clear hn3 hy3 HN3 HY3 HIn HC3 hro4 HNo3 HY1 HLow
                      by_cases e7 : lowN z
                      · rw [decide_eq_true e7] at HLz
                        have HY7 := Lib.hid (HYz.out e7)
                        clear e7 HNz HYz
                        go_wp2_with fail
                        refine (HLz.out _).mono ?_
                        rintro e w7 ⟨rfl, rfl⟩
                        go_wp2
                        go_roundg (m - (k3 + 1))
                        case measure => omega
                        case rel => exact ⟨k3 + 1, by omega, by omega, by go_num, HB6.out, HX6.out, HBx6.out, HY7.out⟩
                      · rw [decide_eq_false e7] at HLz
                        have HN7 := Lib.hid (HNz.out e7)
                        clear e7 HNz HYz
                        go_wp2_with fail
                        refine (HLz.out _).mono ?_
                        rintro e w7 ⟨rfl, rfl⟩
                        go_wp2
                        go_returns
                        exact ⟨retB HN7.out.symm, HB6.out⟩
                    · have hlz3 : ¬ (k3 : Int) < (m : Int) := by omega
                      obtain rfl : k3 = m := by omega
                      have HY8 := Lib.hid (HY3.out HC3.out)
                      clear HN3 HY3 HIn HC3 hro4 HNo3 HY1 HLow
                      go_wp2
                      go_roundg (n3 - (k2 + 1))
                      case measure => omega
                      case rel => exact ⟨k2 + 1, by omega, by omega, by go_num, HB6.out, HX6.out, HY8.out⟩
                · have b6 : (m : Int) > 64 := by omega
                  have HN2 := Lib.hid (HNx.out (fun q => e3 q.2.2.1))
                  clear e1 e2 e3 HNx HYx
                  go_wp2_with fail
                  refine (HLx.out _).mono ?_
                  rintro e w4 ⟨rfl, rfl⟩
                  go_wp2_with fail
                  refine (HLy.out _).mono ?_
                  rintro e w4 ⟨rfl, rfl⟩
                  go_wp2
                  go_returns
                  exact ⟨retB HN2.out.symm, HB1.out⟩
              · rw [decide_eq_false e2] at HLy
                have HN2 := Lib.hid (HNx.out (fun q => e2 q.2.1))
                clear e1 e2 HNx HYx
                go_wp2_with fail
                refine (HLx.out _).mono ?_
                rintro e w4 ⟨rfl, rfl⟩
                go_wp2_with fail
                refine (HLy.out _).mono ?_
                rintro e w4 ⟨rfl, rfl⟩
                go_wp2
                go_returns
                exact ⟨retB HN2.out.symm, HB1.out⟩
            · rw [decide_eq_false e1] at HLx
              have HN2 := Lib.hid (HNx.out (fun q => e1 q.1))
              clear e1 HNx HYx
              go_wp2_with fail
              refine (HLx.out _).mono ?_
              rintro e w4 ⟨rfl, rfl⟩
              go_wp2
              go_returns
              exact ⟨retB HN2.out.symm, HB1.out⟩
          · have hlz : ¬ (k2 : Int) < (n3 : Int) := by omega
            obtain rfl : k2 = n3 := by omega
            have HY2 := Lib.hid (HY1.out HC.out)
            clear hro3 HNo2 HC HY1
            go_wp2
            clear d2
            go_loopg [7] n4 (fun gg i wr => ∃ k4 : Nat, k4 ≤ n4 ∧ n4 - k4 ≤ gg ∧ i = .int .i64 k4 ∧ Hid (Below w.heap.size w wr) ∧ Hid (rowOf wr w.heap.size = some #[.slice p1 k c1, .slice p2 k c2, .slice p3 k2 c3, .slice p4 n4 c4]) ∧ Hid (∀ j, j < k4 → fitsE g.edges[j]!))
            case atStart => exact ⟨0, Nat.zero_le _, by omega, rfl, HB.out, HX1.out, fun j hj => absurd hj (by omega)⟩
            case round =>
              obtain ⟨k4, hkn4, hg4, rfl, HB, HX1, HC⟩ := hrel
              have d3 : wr.cell? ⟨w.heap.size, 3, none⟩ = some (.slice p4 n4 c4) := rowOf_cell HX1.out 3
              by_cases hlt : k4 < n4
              · have hlz : (k4 : Int) < (n4 : Int) := by omega
                obtain ⟨b, off, rfl, x0, x1, x2, x3⟩ := hro4.out wr HB.out k4 hlt
                have hnx := HNo3.out k4 hlt
                have hyx := fun (e : fitsE g.edges[k4]!) => show ∀ j, j < k4 + 1 → fitsE g.edges[j]! from fun j hj => by
                  by_cases q : j = k4
                  · rw [q]; exact e
                  · exact HC.out j (by omega)
                generalize g.edges[k4]! = x at *
                obtain ⟨xa, xb, xc, xe⟩ := x
                simp only at x0 x1 x2 x3
                have hnx : ¬ (lowN xa ∧ lowN xb ∧ lowN xc) → res = false := hnx
                have hyx : (lowN xa ∧ lowN xb ∧ lowN xc) → ∀ j, j < k4 + 1 → fitsE g.edges[j]! := hyx
                have HNx := Lib.hid hnx; have HYx := Lib.hid hyx
                have HLx := Lib.hid (HLow.out xa); have HLy := Lib.hid (HLow.out xb); have HLz := Lib.hid (HLow.out xc)
                have HB1 := Lib.hid (HB.out.alloc HB.out.size (.cells #[.int .i64 xa, .int .i64 xb, .int .i64 xc, .bool xe] 58))
                have HX2 := Lib.hid (row_old (o := .cells #[.int .i64 xa, .int .i64 xb, .int .i64 xc, .bool xe] 58) HX1.out)
                clear hnx hyx hro4 HNo3 HC HLow
                by_cases e1 : lowN xa
                · rw [decide_eq_true e1] at HLx
                  by_cases e2 : lowN xb
                  · rw [decide_eq_true e2] at HLy
                    by_cases e3 : lowN xc
                    · rw [decide_eq_true e3] at HLz
                      have HY3 := Lib.hid (HYx.out ⟨e1, e2, e3⟩)
                      clear e1 e2 e3 HNx HYx
                      go_wp2_with fail
                      refine (HLx.out _).mono ?_
                      rintro e w4 ⟨rfl, rfl⟩
                      go_wp2_with fail
                      refine (HLy.out _).mono ?_
                      rintro e w4 ⟨rfl, rfl⟩
                      go_wp2_with fail
                      refine (HLz.out _).mono ?_
                      rintro e w4 ⟨rfl, rfl⟩
                      go_wp2
                      go_roundg (n4 - (k4 + 1))
                      case measure => omega
                      case rel => exact ⟨k4 + 1, by omega, by omega, by go_num, HB1.out, HX2.out, HY3.out⟩
                    · rw [decide_eq_false e3] at HLz
                      have HN2 := Lib.hid (HNx.out (fun q => e3 q.2.2))
                      clear e1 e2 e3 HNx HYx
                      go_wp2_with fail
                      refine (HLx.out _).mono ?_
                      rintro e w4 ⟨rfl, rfl⟩
                      go_wp2_with fail
                      refine (HLy.out _).mono ?_
                      rintro e w4 ⟨rfl, rfl⟩
                      go_wp2_with fail
                      refine (HLz.out _).mono ?_
                      rintro e w4 ⟨rfl, rfl⟩
                      go_wp2
                      go_returns
                      exact ⟨retB HN2.out.symm, HB1.out⟩
                  · rw [decide_eq_false e2] at HLy
                    have HN2 := Lib.hid (HNx.out (fun q => e2 q.2.1))
                    clear e1 e2 HNx HYx
                    go_wp2_with fail
                    refine (HLx.out _).mono ?_
                    rintro e w4 ⟨rfl, rfl⟩
                    go_wp2_with fail
                    refine (HLy.out _).mono ?_
                    rintro e w4 ⟨rfl, rfl⟩
                    go_wp2
                    go_returns
                    exact ⟨retB HN2.out.symm, HB1.out⟩
                · rw [decide_eq_false e1] at HLx
                  have HN2 := Lib.hid (HNx.out (fun q => e1 q.1))
                  clear e1 HNx HYx
                  go_wp2_with fail
                  refine (HLx.out _).mono ?_
                  rintro e w4 ⟨rfl, rfl⟩
                  go_wp2
                  go_returns
                  exact ⟨retB HN2.out.symm, HB1.out⟩
              · have hlz : ¬ (k4 : Int) < (n4 : Int) := by omega
                obtain rfl : k4 = n4 := by omega
                have HY3 := Lib.hid (HY2.out HC.out)
                clear hro4 HNo3 HC HY2 HLow
                go_wp2
                go_returns
                exact ⟨retB HY3.out.symm, HB.out⟩
  · have hq := HNo0.out hdim
    subst hq
    clear hro1 hro2 hro3 hro4 HNo0 HNo1 HNo2 HNo3 HYes HLow
    by_cases a1 : (n1 : Int) < 1
    · go_enter Try.func22, Try.ntmps22
      go_wp2
      go_returns
      exact ⟨rfl, HB0.out⟩
    by_cases a2 : (n1 : Int) > 8
    · go_enter Try.func22, Try.ntmps22
      go_wp2
      go_returns
      exact ⟨rfl, HB0.out⟩
    by_cases a3 : n1 = n2
    · have a3b : ((n1 : Int) != (n2 : Int)) = false := by simp; omega
      by_cases a4 : (n3 : Int) > 32
      · clear hdim a3
        go_enter Try.func22, Try.ntmps22
        go_wp2
        go_returns
        exact ⟨rfl, HB0.out⟩
      · have a5 : (n4 : Int) > 64 := by omega
        clear hdim a3
        go_enter Try.func22, Try.ntmps22
        go_wp2
        go_returns
        exact ⟨rfl, HB0.out⟩
    · have a3b : ((n1 : Int) != (n2 : Int)) = true := by simp; omega
      clear hdim a3
      go_enter Try.func22, Try.ntmps22
      go_wp2
      go_returns
      exact ⟨rfl, HB0.out⟩
end Go.Proofs.Ytdhmoiiagplbpaa
