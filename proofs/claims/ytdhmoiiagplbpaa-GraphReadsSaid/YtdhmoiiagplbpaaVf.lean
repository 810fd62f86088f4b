/- the document's Same on graphs -/
import Derived.Test.YtdhmoiiagplbpaaVe
import Derived.Deep.RegionHeldLaw
import Derived.Deep.CutRange
namespace Go.Proofs.Ytdhmoiiagplbpaa
open Go.RowKit
set_option linter.unusedVariables false
set_option linter.unusedSimpArgs false
attribute [local go_sem ↓] eqEdge neEdge

theorem GN.ext4 {a b : GN} (h1 : a.kind = b.kind) (h2 : a.scope = b.scope) (h3 : a.arg = b.arg) (h4 : a.prog = b.prog) : a = b := by cases a; cases b; simp only at h1 h2 h3 h4; subst h1; subst h2; subst h3; subst h4; rfl
theorem retB {a : Bool} {b : Bool} (h : a = b) : Ending.returned (.bool a) = .returned (.bool b) := by rw [h]
theorem balloc0 {w0 W : World} {o : Obj} (h : Below w0.heap.size w0 W) : Below w0.heap.size w0 (W.alloc o) := h.alloc h.size o
/-- what a walk over two nodes wants -/
structure TwoN (W : World) (x y : GN) (p q : Option Addr) (c d : Nat) : Prop where
  a : RC.Is W (.slice p x.prog.length c) x.prog
  b : RC.Is W (.slice q y.prog.length d) y.prog
set_option maxRecDepth 100000 in
set_option maxHeartbeats 16000000 in
theorem rsame_eqlen (g h : GV) (va vb : Value) (w : World) (hg : IsG w va g) (hh : IsG w vb h) (hl : g.nodes.length ≤ 900000) (hl2 : g.edges.length ≤ 900000) (hlp : g.parent.length ≤ 900000) (hlb : g.bound.length ≤ 900000) (hpl : ∀ x ∈ g.nodes, x.prog.length ≤ 900000) (hn : g.nodes.length = h.nodes.length) (he : g.edges.length = h.edges.length) (hpp : g.parent = h.parent) (hbb : g.bound = h.bound) :
    Calls Try.prog 13 #[va, vb] w (Ret (.bool (decide (g.nodes = h.nodes ∧ g.edges = h.edges))) w) := by
  obtain ⟨pv1, bv1, nv1, ev1, rfl, a1, a2, ⟨xs1, a3, a3n, a3a⟩, a4⟩ := hg
  obtain ⟨pv2, bv2, nv2, ev2, rfl, b1, b2, ⟨xs2, b3, b3n, b3a⟩, b4⟩ := hh
  have HI1 := Lib.hid (fun W (hW : Below w.heap.size w W) => rints_any g.parent h.parent pv1 pv2 W hlp (a1.below hW) (b1.below hW))
  have HI2 := Lib.hid (fun W (hW : Below w.heap.size w W) => rints_any g.bound h.bound bv1 bv2 W hlb (a2.below hW) (b2.below hW))
  rw [decide_eq_true hpp] at HI1
  rw [decide_eq_true hbb] at HI2
  obtain ⟨p1, c1, rfl⟩ := a1.slice
  obtain ⟨p2, c2, rfl⟩ := a2.slice
  obtain ⟨q1, d1, rfl⟩ := b1.slice
  obtain ⟨q2, d2, rfl⟩ := b2.slice
  obtain ⟨p3, c3, rfl, aop⟩ := a3.opened
  obtain ⟨q3, d3, rfl, bop⟩ := b3.opened
  obtain ⟨p4, c4, rfl, aoe⟩ := a4.opened
  obtain ⟨q4, d4, rfl, boe⟩ := b4.opened
  rw [← he] at boe ⊢
  have hrow : Hid (∀ (W : World), Below w.heap.size w W → ∀ j, j < g.nodes.length → ∃ b1 o1 b2 o2 p' c' q' d', p3 = some ⟨b1, o1, none⟩ ∧ q3 = some ⟨b2, o2, none⟩ ∧
      (W.cell? ⟨b1, o1 + j * 4, none⟩ = some (.int .i64 g.nodes[j]!.kind) ∧ W.cell? ⟨b1, o1 + j * 4 + 1, none⟩ = some (.int .i64 g.nodes[j]!.scope) ∧ W.cell? ⟨b1, o1 + j * 4 + 2, none⟩ = some (.int .i64 g.nodes[j]!.arg) ∧ W.cell? ⟨b1, o1 + j * 4 + 3, none⟩ = some (.slice p' g.nodes[j]!.prog.length c')) ∧
      (W.cell? ⟨b2, o2 + j * 4, none⟩ = some (.int .i64 h.nodes[j]!.kind) ∧ W.cell? ⟨b2, o2 + j * 4 + 1, none⟩ = some (.int .i64 h.nodes[j]!.scope) ∧ W.cell? ⟨b2, o2 + j * 4 + 2, none⟩ = some (.int .i64 h.nodes[j]!.arg) ∧ W.cell? ⟨b2, o2 + j * 4 + 3, none⟩ = some (.slice q' h.nodes[j]!.prog.length d')) ∧
      (∀ W', Below w.heap.size w W' → TwoN W' g.nodes[j]! h.nodes[j]! p' q' c' d')) := fun W hW j hj => by
    obtain ⟨b1, o1, e1, hb1, hr1⟩ := aop j (by omega)
    obtain ⟨b2, o2, e2, hb2, hr2⟩ := bop j (by omega)
    have r1 := atW (hr1.below hW hb1) j (by omega)
    have r2 := atW (hr2.below hW hb2) j (by omega)
    have n1 := a3a j hj
    have n2 := b3a j (by omega)
    have l1 := n1.len
    have l2 := n2.len
    obtain ⟨k1, k2, k3, k4⟩ := n1
    obtain ⟨m1, m2, m3, m4⟩ := n2
    rw [k1, k2, k3, l1] at r1
    rw [m1, m2, m3, l2] at r2
    rw [l1] at k4
    rw [l2] at m4
    exact ⟨b1, o1, b2, o2, _, _, _, _, e1, e2, r1, r2, fun W' hW' => ⟨k4.below hW', m4.below hW'⟩⟩
  have hroe : Hid (∀ (W : World), Below w.heap.size w W → ∀ j, j < g.edges.length → ∃ b1 o1 b2 o2, p4 = some ⟨b1, o1, none⟩ ∧ q4 = some ⟨b2, o2, none⟩ ∧
      (W.cell? ⟨b1, o1 + j * 4, none⟩ = some (.int .i64 g.edges[j]!.src) ∧ W.cell? ⟨b1, o1 + j * 4 + 1, none⟩ = some (.int .i64 g.edges[j]!.dst) ∧ W.cell? ⟨b1, o1 + j * 4 + 2, none⟩ = some (.int .i64 g.edges[j]!.port) ∧ W.cell? ⟨b1, o1 + j * 4 + 3, none⟩ = some (.bool g.edges[j]!.ex)) ∧
      (W.cell? ⟨b2, o2 + j * 4, none⟩ = some (.int .i64 h.edges[j]!.src) ∧ W.cell? ⟨b2, o2 + j * 4 + 1, none⟩ = some (.int .i64 h.edges[j]!.dst) ∧ W.cell? ⟨b2, o2 + j * 4 + 2, none⟩ = some (.int .i64 h.edges[j]!.port) ∧ W.cell? ⟨b2, o2 + j * 4 + 3, none⟩ = some (.bool h.edges[j]!.ex))) := fun W hW j hj => by
    obtain ⟨b1, o1, e1, hb1, hr1⟩ := aoe j (by omega)
    obtain ⟨b2, o2, e2, hb2, hr2⟩ := boe j (by omega)
    exact ⟨b1, o1, b2, o2, e1, e2, atE (hr1.below hW hb1) j (by omega), atE (hr2.below hW hb2) j (by omega)⟩
  have HPl := Lib.hid (fun j (hj : j < g.nodes.length) => hpl g.nodes[j]! (by rw [getElem!_pos g.nodes j hj]; exact List.getElem_mem hj))
  have HStepN := Lib.hid (fun j (hj : j < g.nodes.length) => take_getA g.nodes j hj)
  have HStepN2 := Lib.hid (fun j (hj : j < g.nodes.length) => take_getA h.nodes j (by omega))
  have HStepE := Lib.hid (fun j (hj : j < g.edges.length) => take_getA g.edges j hj)
  have HStepE2 := Lib.hid (fun j (hj : j < g.edges.length) => take_getA h.edges j (by omega))
  have HEndN : Hid (g.nodes.take g.nodes.length = h.nodes.take g.nodes.length → g.nodes = h.nodes) := fun q => by rw [List.take_length, hn, List.take_length] at q; exact q
  have HEndE : Hid (g.edges.take g.edges.length = h.edges.take g.edges.length → g.edges = h.edges) := fun q => by rw [List.take_length, he, List.take_length] at q; exact q
  rw [a3n, b3n, ← hn, ← hpp, ← hbb]
  have HXA : Hid (rowOf (w.alloc (.cells #[.slice p1 g.parent.length c1, .slice p2 g.bound.length c2, .slice p3 g.nodes.length c3, .slice p4 g.edges.length c4] 26)) w.heap.size = some #[.slice p1 g.parent.length c1, .slice p2 g.bound.length c2, .slice p3 g.nodes.length c3, .slice p4 g.edges.length c4]) := rowOf_alloc_at _ _ _ rfl
  have HXB : Hid (rowOf ((w.alloc (.cells #[.slice p1 g.parent.length c1, .slice p2 g.bound.length c2, .slice p3 g.nodes.length c3, .slice p4 g.edges.length c4] 26)).alloc (.cells #[.slice q1 g.parent.length d1, .slice q2 g.bound.length d2, .slice q3 g.nodes.length d3, .slice q4 g.edges.length d4] 26)) (w.heap.size + 1) = some #[.slice q1 g.parent.length d1, .slice q2 g.bound.length d2, .slice q3 g.nodes.length d3, .slice q4 g.edges.length d4]) := rowOf_alloc_at _ _ _ (by simp)
  have HB0 := Lib.hid (((Below.refl w.heap.size w).alloc (Nat.le_refl _) (.cells #[.slice p1 g.parent.length c1, .slice p2 g.bound.length c2, .slice p3 g.nodes.length c3, .slice p4 g.edges.length c4] 26)).alloc (by simp) (.cells #[.slice q1 g.parent.length d1, .slice q2 g.bound.length d2, .slice q3 g.nodes.length d3, .slice q4 g.edges.length d4] 26))
  rw [← hpp] at HI1
  rw [← hbb] at HI2
  have HDec : Hid (∀ (b : Bool), (b = true ↔ (g.nodes = h.nodes ∧ g.edges = h.edges)) → decide (g.nodes = h.nodes ∧ g.edges = h.edges) = b) := fun b hb => by
    cases b
    · exact decide_eq_false (fun e => by have := hb.2 e; cases this)
    · exact decide_eq_true (hb.1 rfl)
  clear a1 a2 a3 a4 b1 b2 b3 b4 a3a b3a aop bop aoe boe hpl hpp hbb hn he
  generalize decide (g.nodes = h.nodes ∧ g.edges = h.edges) = res at *
  generalize hLN : g.nodes.length = n3 at *
  generalize hLE : g.edges.length = n4 at *
  generalize g.parent.length = n1 at *
  generalize g.bound.length = n2 at *
  clear hLN hLE a3n b3n
  have hz3 : ((n3 : Int) != (n3 : Int)) = false := by simp
  have hz4 : ((n4 : Int) != (n4 : Int)) = false := by simp
  go_enter Try.func13, Try.ntmps13
  go_wp2_with fail
  refine (HI1.out _ HB0.out).mono ?_
  rintro e w1 ⟨rfl, hb1⟩
  have HB1 := Lib.hid (HB0.out.trans (hb1.mono HB0.out.size))
  have hxa := rowOf_below (row_old (o := .cells #[.slice q1 n1 d1, .slice q2 n2 d2, .slice q3 n3 d3, .slice q4 n4 d4] 26) HXA.out) hb1 (by simp; omega)
  have hxb := rowOf_below HXB.out hb1 (by simp)
  have HXA1 := Lib.hid hxa; have HXB1 := Lib.hid hxb
  have r1 : w1.cell? ⟨w.heap.size, 1, none⟩ = some (.slice p2 n2 c2) := rowOf_cell hxa 1
  have s1 : w1.cell? ⟨w.heap.size + 1, 1, none⟩ = some (.slice q2 n2 d2) := rowOf_cell hxb 1
  clear hb1 hxa hxb HXA HXB HI1 HB0
  go_wp2_with fail
  refine (HI2.out _ HB1.out).mono ?_
  rintro e w2 ⟨rfl, hb2⟩
  have HB2 := Lib.hid (HB1.out.trans (hb2.mono HB1.out.size))
  have hxa := rowOf_below HXA1.out hb2 (rowOf_lt HXA1.out)
  have hxb := rowOf_below HXB1.out hb2 (rowOf_lt HXB1.out)
  have HXA2 := Lib.hid hxa; have HXB2 := Lib.hid hxb
  have r2 : w2.cell? ⟨w.heap.size, 2, none⟩ = some (.slice p3 n3 c3) := rowOf_cell hxa 2
  have s2 : w2.cell? ⟨w.heap.size + 1, 2, none⟩ = some (.slice q3 n3 d3) := rowOf_cell hxb 2
  have r3 : w2.cell? ⟨w.heap.size, 3, none⟩ = some (.slice p4 n4 c4) := rowOf_cell hxa 3
  have s3 : w2.cell? ⟨w.heap.size + 1, 3, none⟩ = some (.slice q4 n4 d4) := rowOf_cell hxb 3
  clear hb2 hxa hxb HXA1 HXB1 HI2 HB1 r1 s1
  go_wp2
  clear r2 s2 r3 s3
  go_loopg [5] n3 (fun gg i wr => ∃ k : Nat, k ≤ n3 ∧ n3 - k ≤ gg ∧ i = .int .i64 k ∧ Hid (Below w.heap.size w wr) ∧ Hid (rowOf wr w.heap.size = some #[.slice p1 n1 c1, .slice p2 n2 c2, .slice p3 n3 c3, .slice p4 n4 c4]) ∧ Hid (rowOf wr (w.heap.size + 1) = some #[.slice q1 n1 d1, .slice q2 n2 d2, .slice q3 n3 d3, .slice q4 n4 d4]) ∧ Hid (g.nodes.take k = h.nodes.take k))
  case atStart => exact ⟨0, Nat.zero_le _, by omega, rfl, HB2.out, HXA2.out, HXB2.out, rfl⟩
  case round =>
    obtain ⟨k, hkn, hg, rfl, HB, HXA, HXB, HC⟩ := hrel
    have r2 : wr.cell? ⟨w.heap.size, 2, none⟩ = some (.slice p3 n3 c3) := rowOf_cell HXA.out 2
    have s2 : wr.cell? ⟨w.heap.size + 1, 2, none⟩ = some (.slice q3 n3 d3) := rowOf_cell HXB.out 2
    by_cases hlt : k < n3
    · have hlz : (k : Int) < (n3 : Int) := by omega
      obtain ⟨b1, o1, b2, o2, p', c', q', d', rfl, rfl, ⟨x0, x1, x2, x3⟩, ⟨y0, y1, y2, y3⟩, hTwo⟩ := hrow.out wr HB.out k hlt
      have hgo := fun (e : g.nodes[k]! = h.nodes[k]!) => show g.nodes.take (k + 1) = h.nodes.take (k + 1) by rw [HStepN.out k hlt, HStepN2.out k hlt, HC.out, e]
      have hno := fun (e : ¬ g.nodes[k]! = h.nodes[k]!) => HDec.out false ⟨fun q => absurd q (by decide), fun q => absurd (by rw [q.1]) e⟩
      have hpk := HPl.out k hlt
      generalize g.nodes[k]! = x at *
      generalize h.nodes[k]! = y at *
      obtain ⟨xk, xs, xa, xp⟩ := x
      obtain ⟨yk, ys, ya, yp⟩ := y
      simp only at x0 x1 x2 x3 y0 y1 y2 y3 hpk hTwo hgo hno
      have HGo := Lib.hid hgo; have HNo := Lib.hid hno; have HTwo := Lib.hid hTwo; have HPk := Lib.hid hpk
      clear hgo hno hTwo hpk hrow hroe HPl HStepN HStepN2 HStepE HStepE2 HC
      go_upto_region 6 with (fail)
      go_cut [6, 7] from 41 to 84 (fun v6 v7 wx => ∃ i6 i7, v6 = .pointer (some ⟨i6, 0, none⟩) ∧ v7 = .pointer (some ⟨i7, 0, none⟩) ∧ rowOf wx i6 = some #[.int .i64 xk, .int .i64 xs, .int .i64 xa, .slice p' xp.length c'] ∧ rowOf wx i7 = some #[.int .i64 yk, .int .i64 ys, .int .i64 ya, .slice q' yp.length d'] ∧ Below wr.heap.size wr wx)
      case first =>
        go_region_held_law (fun w' => w'.cell? ⟨w.heap.size, 2, none⟩ = some (.slice (some ⟨b1, o1, none⟩) n3 c3) ∧ w'.cell? ⟨w.heap.size + 1, 2, none⟩ = some (.slice (some ⟨b2, o2, none⟩) n3 d3) ∧ w'.cell? ⟨b1, o1 + k * 4, none⟩ = some (.int .i64 xk) ∧ w'.cell? ⟨b1, o1 + k * 4 + 1, none⟩ = some (.int .i64 xs) ∧ w'.cell? ⟨b1, o1 + k * 4 + 2, none⟩ = some (.int .i64 xa) ∧ w'.cell? ⟨b1, o1 + k * 4 + 3, none⟩ = some (.slice p' xp.length c') ∧ w'.cell? ⟨b2, o2 + k * 4, none⟩ = some (.int .i64 yk) ∧ w'.cell? ⟨b2, o2 + k * 4 + 1, none⟩ = some (.int .i64 ys) ∧ w'.cell? ⟨b2, o2 + k * 4 + 2, none⟩ = some (.int .i64 ya) ∧ w'.cell? ⟨b2, o2 + k * 4 + 3, none⟩ = some (.slice q' yp.length d')) (first | assumption | go_keep) (fail)
        all_goals (
          go_wp2_with fail
          go_meet
          case rel => first
            | exact ⟨_, _, rfl, rfl, row_drew (row_new (by simp)), row_drew (row_old (row_new rfl)), ((balloc0 (Below.refl wr.heap.size wr)).alloc (by simp) _).drew⟩
            | exact ⟨_, _, rfl, rfl, row_drew (row_old (row_new rfl)), row_drew (row_new (by simp)), ((balloc0 (Below.refl wr.heap.size wr)).alloc (by simp) _).drew⟩)
      case rest =>
        obtain ⟨i6, i7, rfl, rfl, hx, hy, hb⟩ := hcut
        have hxa := rowOf_below HXA.out hb (rowOf_lt HXA.out)
        have hxb := rowOf_below HXB.out hb (rowOf_lt HXB.out)
        have HXA3 := Lib.hid hxa; have HXB3 := Lib.hid hxb
        have HB3 := Lib.hid (HB.out.trans (hb.mono HB.out.size))
        have t0 : wc.cell? ⟨i6, 0, none⟩ = some (.int .i64 xk) := rowOf_cell hx 0
        have t1 : wc.cell? ⟨i6, 1, none⟩ = some (.int .i64 xs) := rowOf_cell hx 1
        have t2 : wc.cell? ⟨i6, 2, none⟩ = some (.int .i64 xa) := rowOf_cell hx 2
        have t3 : wc.cell? ⟨i6, 3, none⟩ = some (.slice p' xp.length c') := rowOf_cell hx 3
        have u0 : wc.cell? ⟨i7, 0, none⟩ = some (.int .i64 yk) := rowOf_cell hy 0
        have u1 : wc.cell? ⟨i7, 1, none⟩ = some (.int .i64 ys) := rowOf_cell hy 1
        have u2 : wc.cell? ⟨i7, 2, none⟩ = some (.int .i64 ya) := rowOf_cell hy 2
        have u3 : wc.cell? ⟨i7, 3, none⟩ = some (.slice q' yp.length d') := rowOf_cell hy 3
        have HS := Lib.hid (fun W (hW : Below w.heap.size w W) => rinss_any xp yp (.slice p' xp.length c') (.slice q' yp.length d') W HPk.out (HTwo.out W hW).a (HTwo.out W hW).b)
        have hng := fun (e : ¬ (xk = yk ∧ xs = ys ∧ xa = ya ∧ xp = yp)) => HNo.out (fun q => e (by injection q with q1 q2 q3 q4; exact ⟨q1, q2, q3, q4⟩))
        have hyg := fun (e : xk = yk ∧ xs = ys ∧ xa = ya ∧ xp = yp) => HGo.out (GN.ext4 e.1 e.2.1 e.2.2.1 e.2.2.2)
        have HNg := Lib.hid hng; have HYg := Lib.hid hyg
        clear hx hy hb hxa hxb HXA HXB HB HNo HGo HTwo HPk x0 x1 x2 x3 y0 y1 y2 y3 r2 s2 hng hyg
        by_cases e0 : xk = yk
        · have f0 : (xk != yk) = false := by simpa using e0
          by_cases e1 : xs = ys
          · have f1 : (xs != ys) = false := by simpa using e1
            by_cases e2 : xa = ya
            · have f2 : (xa != ya) = false := by simpa using e2
              have hNp := fun (e : ¬ xp = yp) => HNg.out (fun q => e q.2.2.2)
              have hYp := fun (e : xp = yp) => HYg.out ⟨e0, e1, e2, e⟩
              have HNp := Lib.hid hNp; have HYp := Lib.hid hYp
              clear hNp hYp HNg HYg e0 e1 e2
              go_wp2_with fail
              refine (HS.out _ HB3.out).mono ?_
              rintro e w4 ⟨rfl, hb4⟩
              have HB4 := Lib.hid (HB3.out.trans (hb4.mono HB3.out.size))
              have HXA4 := Lib.hid (rowOf_below HXA3.out hb4 (rowOf_lt HXA3.out))
              have HXB4 := Lib.hid (rowOf_below HXB3.out hb4 (rowOf_lt HXB3.out))
              clear hb4 HS HXA3 HXB3 HB3 t0 t1 t2 t3 u0 u1 u2 u3
              by_cases e3 : xp = yp
              · rw [decide_eq_true e3]
                have HYn := Lib.hid (HYp.out e3)
                clear HNp HYp e3
                go_wp2
                go_roundg (n3 - (k + 1))
                case measure => omega
                case rel => exact ⟨k + 1, by omega, by omega, by go_num, HB4.out, HXA4.out, HXB4.out, HYn.out⟩
              · rw [decide_eq_false e3]
                have HNn := Lib.hid (HNp.out e3)
                clear HNp HYp e3
                go_wp2
                go_returns
                exact ⟨retB HNn.out.symm, HB4.out⟩
            · have f2 : (xa != ya) = true := by simpa using e2
              have HNn := Lib.hid (HNg.out (fun q => e2 q.2.2.1))
              clear HNg HYg e0 e1 e2 HS
              go_wp2
              go_returns
              exact ⟨retB HNn.out.symm, HB3.out⟩
          · have f1 : (xs != ys) = true := by simpa using e1
            have HNn := Lib.hid (HNg.out (fun q => e1 q.2.1))
            clear HNg HYg e0 e1 HS
            go_wp2
            go_returns
            exact ⟨retB HNn.out.symm, HB3.out⟩
        · have f0 : (xk != yk) = true := by simpa using e0
          have HNn := Lib.hid (HNg.out (fun q => e0 q.1))
          clear HNg HYg e0 HS
          go_wp2
          go_returns
          exact ⟨retB HNn.out.symm, HB3.out⟩
    · have hlz : ¬ (k : Int) < (n3 : Int) := by omega
      obtain rfl : k = n3 := by omega
      have HEn := Lib.hid (HEndN.out HC.out)
      clear hrow HPl HStepN HStepN2 HC HEndN
      go_wp2
      clear r2 s2
      go_loopg [8] n4 (fun gg i wr => ∃ j : Nat, j ≤ n4 ∧ n4 - j ≤ gg ∧ i = .int .i64 j ∧ Hid (Below w.heap.size w wr) ∧ Hid (rowOf wr w.heap.size = some #[.slice p1 n1 c1, .slice p2 n2 c2, .slice p3 k c3, .slice p4 n4 c4]) ∧ Hid (rowOf wr (w.heap.size + 1) = some #[.slice q1 n1 d1, .slice q2 n2 d2, .slice q3 k d3, .slice q4 n4 d4]) ∧ Hid (g.edges.take j = h.edges.take j))
      case atStart => exact ⟨0, Nat.zero_le _, by omega, rfl, HB.out, HXA.out, HXB.out, rfl⟩
      case round =>
        obtain ⟨j, hjn, hg, rfl, HB, HXA, HXB, HC⟩ := hrel
        have r3 := fun m => show (wr.drewN m).cell? ⟨w.heap.size, 3, none⟩ = some (.slice p4 n4 c4) from rowOf_cell HXA.out 3
        have s3 := fun m => show (wr.drewN m).cell? ⟨w.heap.size + 1, 3, none⟩ = some (.slice q4 n4 d4) from rowOf_cell HXB.out 3
        by_cases hlt : j < n4
        · have hlz : (j : Int) < (n4 : Int) := by omega
          obtain ⟨b1, o1, b2, o2, rfl, rfl, hcx, hcy⟩ := hroe.out wr HB.out j hlt
          have hgo := fun (e : g.edges[j]! = h.edges[j]!) => show g.edges.take (j + 1) = h.edges.take (j + 1) by rw [HStepE.out j hlt, HStepE2.out j hlt, HC.out, e]
          have hno := fun (e : ¬ g.edges[j]! = h.edges[j]!) => HDec.out false ⟨fun q => absurd q (by decide), fun q => absurd (by rw [q.2]) e⟩
          generalize g.edges[j]! = x at *
          generalize h.edges[j]! = y at *
          obtain ⟨x0, x1, x2, x3⟩ := x
          obtain ⟨y0, y1, y2, y3⟩ := y
          simp only at hcx hcy
          have f0 := fun m => show (wr.drewN m).cell? _ = _ from hcx.1
          have f1 := fun m => show (wr.drewN m).cell? _ = _ from hcx.2.1
          have f2 := fun m => show (wr.drewN m).cell? _ = _ from hcx.2.2.1
          have f3 := fun m => show (wr.drewN m).cell? _ = _ from hcx.2.2.2
          have g0 := fun m => show (wr.drewN m).cell? _ = _ from hcy.1
          have g1 := fun m => show (wr.drewN m).cell? _ = _ from hcy.2.1
          have g2 := fun m => show (wr.drewN m).cell? _ = _ from hcy.2.2.1
          have g3 := fun m => show (wr.drewN m).cell? _ = _ from hcy.2.2.2
          clear hcx hcy hroe HStepE HStepE2 HC
          have r30 : wr.cell? ⟨w.heap.size, 3, none⟩ = some (.slice (some ⟨b1, o1, none⟩) n4 c4) := rowOf_cell HXA.out 3
          have s30 : wr.cell? ⟨w.heap.size + 1, 3, none⟩ = some (.slice (some ⟨b2, o2, none⟩) n4 d4) := rowOf_cell HXB.out 3
          by_cases hxy : (⟨x0, x1, x2, x3⟩ : GE) = ⟨y0, y1, y2, y3⟩
          · have hq : eqE ⟨x0, x1, x2, x3⟩ ⟨y0, y1, y2, y3⟩ = true := decide_eq_true hxy
            have HG := Lib.hid (hgo hxy)
            clear hgo hno hxy
            go_wp2_with fail
            go_quiet (fail)
            go_wp2
            go_roundg (n4 - (j + 1))
            case measure => omega
            case rel => exact ⟨j + 1, by omega, by omega, by go_num, below_drewN HB.out _, HXA.out, HXB.out, HG.out⟩
          · have hq : eqE ⟨x0, x1, x2, x3⟩ ⟨y0, y1, y2, y3⟩ = false := decide_eq_false hxy
            have HG := Lib.hid (hno hxy)
            clear hgo hno hxy
            go_wp2_with fail
            go_quiet (fail)
            go_wp2
            go_returns
            exact ⟨retB HG.out.symm, below_drewN HB.out _⟩
        · have hlz : ¬ (j : Int) < (n4 : Int) := by omega
          obtain rfl : j = n4 := by omega
          have HT := Lib.hid (HDec.out true ⟨fun _ => ⟨HEn.out, HEndE.out HC.out⟩, fun _ => rfl⟩)
          have r30 : wr.cell? ⟨w.heap.size, 3, none⟩ = some (.slice p4 j c4) := rowOf_cell HXA.out 3
          have s30 : wr.cell? ⟨w.heap.size + 1, 3, none⟩ = some (.slice q4 j d4) := rowOf_cell HXB.out 3
          clear hroe HStepE HStepE2 HC r3 s3
          go_wp2
          go_returns
          exact ⟨retB HT.out.symm, HB.out⟩
end Go.Proofs.Ytdhmoiiagplbpaa
