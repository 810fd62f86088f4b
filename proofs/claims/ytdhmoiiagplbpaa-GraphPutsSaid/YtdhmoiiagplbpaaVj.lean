/- the document's Put: the walk -/
import Derived.Test.YtdhmoiiagplbpaaVh
import Derived.Test.YtdhmoiiagplbpaaVi
import Derived.Test.YtdhmoiiagplbpaaWd
import Derived.Deep.RegionHeldLaw
import Derived.Deep.CutRange
import Derived.Lib.SlBytesConst
namespace Go.Proofs.Ytdhmoiiagplbpaa
open Go.RowKit
set_option linter.unusedVariables false
set_option linter.unusedSimpArgs false

theorem wrapU {n : Nat} (h : n < 18446744073709551616) : IntKind.u64.wrap (n : Int) = n := by
  rw [IntKind.wrap_u64, Int.emod_eq_of_lt (by omega) (by omega)]
theorem lowNat {n : Int} (h : lowN n) : ∃ m : Nat, n = (m : Int) ∧ m ≤ 2147483647 ∧ n.toNat = m := by
  unfold lowN at h
  exact ⟨n.toNat, by omega, by omega, rfl⟩
theorem RowKind.Row.litB {α : Type} [Inhabited α] {R : RowKind α} (w : World) (xs : List α) (t : TypeId) (fr : Nat × Nat) : R.Row (w.alloc (.cells (R.cells xs).toArray t fr)) w.heap.size 0 xs := by
  intro j hj i u hu
  have hi : i < R.k := by have := (List.getElem?_eq_some_iff.1 hu).1; rw [R.len] at this; exact this
  unfold World.cell?
  rw [heap_alloc_new]
  simp only [Nat.zero_add]
  rw [List.getElem?_toArray, R.cells_get xs j hj i hi]
  exact hu
theorem lit3 (w : World) : RB.Is (w.alloc (.cells #[.int .u8 66, .int .u8 87, .int .u8 49] 5 (3, 4))) (.slice (some ⟨w.heap.size, 0, none⟩) 3 3) [66, 87, 49] :=
  .inr ⟨by decide, w.heap.size, 0, 3, rfl, by simp, RowKind.Row.litB w [66, 87, 49] 5 (3, 4)⟩
set_option maxRecDepth 100000 in
set_option maxHeartbeats 16000000 in
theorem rput_yes (g : GV) (v : Value) (w : World) (h : IsG w v g) (hf : fitsG g) (hok : okG g) : Calls Try.prog 10 #[v] w (fun e w' => ∃ u, e = .returned (.tuple #[u, .int .i64 0]) ∧ RB.Own w.heap.size w' u (putG g) ∧ Below w.heap.size w w') := by
  have HFit := Lib.hid (fun W (hW : Below w.heap.size w W) => rfits_any g v W (h.below hW))
  rw [decide_eq_true hf] at HFit
  obtain ⟨pv, bv, nv, ev, rfl, h1, h2, ⟨xs, h3, h3n, h3a⟩, h4⟩ := h
  obtain ⟨p1, c1, rfl, o1⟩ := h1.opened
  obtain ⟨p2, c2, rfl, o2⟩ := h2.opened
  obtain ⟨p3, c3, rfl, o3⟩ := h3.opened
  obtain ⟨p4, c4, rfl, o4⟩ := h4.opened
  have HU : Hid (∀ (W : World) (v : Value) (ys : List Int) (n : Nat), ys.length ≤ 800000 → n < 18446744073709551616 → RB.Is W v ys → Calls Try.prog 23 #[v, .int .u64 (n : Int)] W (RB.Made (ys ++ bytesOf n) W)) := fun W v ys n hl hn h => ruint_any ys v n W hl hn h
  have HI : Hid (∀ (W : World) (v : Value) (ys : List Int) (k : Int), ys.length ≤ 800000 → inR k → RB.Is W v ys → Calls Try.prog 24 #[v, .int .i64 k] W (RB.Made (ys ++ bytesOf (zig k)) W)) := fun W v ys k hl hk h => rintB_any ys v k W hl hk.1 hk.2 h
  have HB0 := Lib.hid ((Below.refl w.heap.size w).alloc (Nat.le_refl _) (.cells #[.slice p1 g.parent.length c1, .slice p2 g.bound.length c2, .slice p3 xs.length c3, .slice p4 g.edges.length c4] 26))
  have HX : Hid (rowOf (w.alloc (.cells #[.slice p1 g.parent.length c1, .slice p2 g.bound.length c2, .slice p3 xs.length c3, .slice p4 g.edges.length c4] 26)) w.heap.size = some #[.slice p1 g.parent.length c1, .slice p2 g.bound.length c2, .slice p3 xs.length c3, .slice p4 g.edges.length c4]) := rowOf_alloc_at _ _ _ rfl
  have hpb : g.bound.length = g.parent.length := hf.2.2.1.symm
  rw [h3n, hpb] at HB0 HX ⊢
  rw [h3n, hpb] at HFit
  have hro1 : Hid (∀ (W : World), Below w.heap.size w W → ∀ j, j < g.parent.length → ∃ b off b2 off2, p1 = some ⟨b, off, none⟩ ∧ p2 = some ⟨b2, off2, none⟩ ∧ W.cell? ⟨b, off + j, none⟩ = some (.int .i64 g.parent[j]!) ∧ W.cell? ⟨b2, off2 + j, none⟩ = some (.int .i64 g.bound[j]!)) := fun W hW j hj => by
    obtain ⟨b, off, e, hb, hr⟩ := o1 j hj
    obtain ⟨b2, off2, e2, hb2, hr2⟩ := o2 j (by omega)
    exact ⟨b, off, b2, off2, e, e2, atN (hr.below hW hb) j hj, atN (hr2.below hW hb2) j (by omega)⟩
  have hro3 : Hid (∀ (W : World), Below w.heap.size w W → ∀ j, j < g.nodes.length → ∃ b off p' c', p3 = some ⟨b, off, none⟩ ∧ W.cell? ⟨b, off + j * 4, none⟩ = some (.int .i64 g.nodes[j]!.kind) ∧ W.cell? ⟨b, off + j * 4 + 1, none⟩ = some (.int .i64 g.nodes[j]!.scope) ∧ W.cell? ⟨b, off + j * 4 + 2, none⟩ = some (.int .i64 g.nodes[j]!.arg) ∧ W.cell? ⟨b, off + j * 4 + 3, none⟩ = some (.slice p' g.nodes[j]!.prog.length c') ∧ (∀ W', Below w.heap.size w W' → ∀ i, i < g.nodes[j]!.prog.length → ∃ b2 of2, p' = some ⟨b2, of2, none⟩ ∧ W'.cell? ⟨b2, of2 + i * 2, none⟩ = some (.int .i64 g.nodes[j]!.prog[i]!.op) ∧ W'.cell? ⟨b2, of2 + i * 2 + 1, none⟩ = some (.int .i64 g.nodes[j]!.prog[i]!.n))) := fun W hW j hj => by
    obtain ⟨b, off, e, hb, hr⟩ := o3 j (by omega)
    have r1 := atW (hr.below hW hb) j (by omega)
    have n1 := h3a j hj
    have l1 := n1.len
    obtain ⟨k1, k2, k3, k4⟩ := n1
    rw [k1, k2, k3, l1] at r1
    rw [l1] at k4
    refine ⟨b, off, _, _, e, r1.1, r1.2.1, r1.2.2.1, r1.2.2.2, fun W' hW' i hi => ?_⟩
    obtain ⟨pp, cc, e2, op⟩ := k4.opened
    simp only [Value.slice.injEq] at e2
    obtain ⟨b2, of2, e3, hb2, hr2⟩ := op i hi
    exact ⟨b2, of2, e2.1.trans e3, (atC7 (hr2.below hW' hb2) i hi).1, (atC7 (hr2.below hW' hb2) i hi).2⟩
  have hro4 : Hid (∀ (W : World), Below w.heap.size w W → ∀ j, j < g.edges.length → ∃ b off, p4 = some ⟨b, off, none⟩ ∧ W.cell? ⟨b, off + j * 4, none⟩ = some (.int .i64 g.edges[j]!.src) ∧ W.cell? ⟨b, off + j * 4 + 1, none⟩ = some (.int .i64 g.edges[j]!.dst) ∧ W.cell? ⟨b, off + j * 4 + 2, none⟩ = some (.int .i64 g.edges[j]!.port) ∧ W.cell? ⟨b, off + j * 4 + 3, none⟩ = some (.bool g.edges[j]!.ex)) := fun W hW j hj => by
    obtain ⟨b, off, e, hb, hr⟩ := o4 j hj
    exact ⟨b, off, e, atE (hr.below hW hb) j hj⟩
  obtain ⟨q1, q2, q3, q4, q5⟩ := ((fitsG_iff g).1 hf).1
  have hst := putG_start hf
  have HTot : Hid ((putG g).length ≤ 50000) := putG_len hf hok
  have HSs := Lib.hid (fun (j : Nat) (hj : j + 1 < g.parent.length) => tailS_step (g := g) q3 hj)
  have HSe := Lib.hid (tailS_end (g := g) q1 q3)
  have HNs := Lib.hid (fun (k : Nat) (hk : k < g.nodes.length) => tailN_step (g := g) hk)
  have HNe := Lib.hid (tailN_end g)
  have HEs := Lib.hid (fun (k : Nat) (hk : k < g.edges.length) => tailE_step (g := g) hk)
  have HEe := Lib.hid (tailE_end g)
  have HLs := Lib.hid (fun (j : Nat) (hj : j + 1 < g.parent.length) => show lowN g.parent[j + 1]! ∧ lowN g.bound[j + 1]! by
    have := ((fitsG_iff g).1 hf).2.1 (j + 1) hj
    unfold okP at this
    rw [if_neg (by omega)] at this
    exact this)
  have HLn := Lib.hid (fun (k : Nat) (hk : k < g.nodes.length) => show (lowN g.nodes[k]!.kind ∧ lowN g.nodes[k]!.scope ∧ g.nodes[k]!.prog.length ≤ 64 ∧ ∀ j, j < g.nodes[k]!.prog.length → lowN g.nodes[k]!.prog[j]!.op) ∧ inR g.nodes[k]!.arg ∧ ∀ j, j < g.nodes[k]!.prog.length → inR g.nodes[k]!.prog[j]!.n from
    ⟨(fitsN_iff _).1 (((fitsG_iff g).1 hf).2.2.1 k hk), (hok _ (by rw [getElem!_pos g.nodes k hk]; exact List.getElem_mem hk)).1, (all_at _ (fun y : NV => inR y.n)).1 (hok _ (by rw [getElem!_pos g.nodes k hk]; exact List.getElem_mem hk)).2⟩)
  have HLe := Lib.hid (fun (k : Nat) (hk : k < g.edges.length) => ((fitsG_iff g).1 hf).2.2.2 k hk)
  clear h1 h2 h3 h4 h3a h3n o1 o2 o3 o4 hpb hf hok
  generalize hTot : putG g = tot at *
  generalize hL1 : g.parent.length = n1 at *
  generalize hL3 : g.nodes.length = n3 at *
  generalize hL4 : g.edges.length = n4 at *
  have HSt := Lib.hid hst
  clear hL1 hL3 hL4 hTot hst q3
  go_enter Try.func10, Try.ntmps10
  go_wp2_with fail
  refine (HFit.out _ HB0.out).mono ?_
  rintro e w1 ⟨rfl, hb1⟩
  have HB1 := Lib.hid (HB0.out.trans (hb1.mono HB0.out.size))
  have hx := rowOf_below HX.out hb1 (by simp)
  have HX1 := Lib.hid hx
  have d0 : w1.cell? ⟨w.heap.size, 0, none⟩ = some (.slice p1 n1 c1) := rowOf_cell hx 0
  have d0m : (w1.alloc (.cells #[.int .u8 66, .int .u8 87, .int .u8 49] 5 (3, 4))).cell? ⟨w.heap.size, 0, none⟩ = some (.slice p1 n1 c1) := Lib.cell?_alloc_marked _ d0
  clear hb1 hx HX HB0 HFit
  have kc := fun (w : World) (C : Array Value) (n c : Nat) => Lib.run_convert_bytes_const (P := Try.prog) w 29 5 C n c Try.underlying29 Try.underlying5
  have HC0 := Lib.hid (HU.out _ _ [66, 87, 49] n1 (by decide) (by omega) (lit3 w1))
  go_wp2_with fail
  refine (HC0.out).mono ?_
  rintro e w2 ⟨bv, rfl, hO, hb2⟩
  have HO := Lib.hid (hO.mono (show w.heap.size + 1 ≤ _ from Nat.le_trans (rowOf_lt HX1.out) (by simp)))
  have HB2 := Lib.hid ((HB1.out.alloc HB1.out.size (.cells #[.int .u8 66, .int .u8 87, .int .u8 49] 5 (3, 4))).trans (hb2.mono (Nat.le_trans HB1.out.size (by simp))))
  have HX2 := Lib.hid (rowOf_below (row_old (o := .cells #[.int .u8 66, .int .u8 87, .int .u8 49] 5 (3, 4)) HX1.out) hb2 (by have := rowOf_lt HX1.out; simp; omega))
  have HEq : Hid (([66, 87, 49] ++ bytesOf n1) ++ tailS g 0 = tot) := by rw [List.append_assoc]; exact HSt.out.symm
  clear hO hb2 HC0 HX1 HB1 d0 HSt kc d0m
  go_wp2_with fail
  go_loopg [4, 5] n1 (fun gg b i wr => ∃ (k : Nat) (ys : List Int), k + 1 ≤ n1 ∧ n1 - k ≤ gg ∧ i = .int .i64 ((k + 1 : Nat) : Int) ∧ Hid (Below w.heap.size w wr) ∧ Hid (rowOf wr w.heap.size = some #[.slice p1 n1 c1, .slice p2 n1 c2, .slice p3 n3 c3, .slice p4 n4 c4]) ∧ Hid (RB.Own (w.heap.size + 1) wr b ys) ∧ Hid (ys ++ tailS g k = tot))
  case atStart => exact ⟨0, _, by omega, by omega, rfl, HB2.out, HX2.out, HO.out, HEq.out⟩
  case round =>
    clear HO HB2 HX2 HEq
    obtain ⟨k, ys, hkn, hg, rfl, HB, HX, HO, HEq⟩ := hrel
    have s0 : wr.cell? ⟨w.heap.size, 0, none⟩ = some (.slice p1 n1 c1) := rowOf_cell HX.out 0
    have s1 : wr.cell? ⟨w.heap.size, 1, none⟩ = some (.slice p2 n1 c2) := rowOf_cell HX.out 1
    have hy : ys.length ≤ 50000 := by have := HTot.out; rw [← HEq.out, List.length_append] at this; omega
    by_cases hlt : k + 1 < n1
    · have hlz : (((k + 1 : Nat) : Int)) < (n1 : Int) := by omega
      obtain ⟨b1, o1, b2, o2, rfl, rfl, s2, s3⟩ := hro1.out wr HB.out (k + 1) hlt
      obtain ⟨l1, l2⟩ := HLs.out k hlt
      have hq := HEq.out
      rw [HSs.out k hlt] at hq
      generalize g.parent[k + 1]! = x at *
      generalize g.bound[k + 1]! = y at *
      obtain ⟨x, rfl, hx, ex⟩ := lowNat l1
      obtain ⟨y, rfl, hyy, ey⟩ := lowNat l2
      rw [ex, ey, ← List.append_assoc, ← List.append_assoc] at hq
      have HQ := Lib.hid hq
      have hbx := bytes_len10 (n := x) (by omega)
      have hwx := wrapU (n := x) (by omega)
      have hwy := wrapU (n := y) (by omega)
      clear l1 l2 ex ey hq hro1 hro3 hro4 HLs HLn HLe HSs HSe HNs HNe HEs HEe HEq
      have HC1 := Lib.hid (fun W (hW : Below wr.heap.size wr W) => (HU.out W u4 ys x (by first | omega | (simp only [List.length_append]; omega)) (by omega) (HO.out.is.below hW)))
      have HC2 := Lib.hid (fun W v (hv : RB.Is W v (ys ++ bytesOf x)) => (HU.out W v (ys ++ bytesOf x) y (by first | omega | (simp only [List.length_append]; omega)) (by omega) hv))
      have HKp := Lib.hid (fun W (hW : Below wr.heap.size wr W) => show W.cell? ⟨w.heap.size, 0, none⟩ = some (.slice (some ⟨b1, o1, none⟩) n1 c1) ∧ W.cell? ⟨w.heap.size, 1, none⟩ = some (.slice (some ⟨b2, o2, none⟩) n1 c2) ∧ W.cell? ⟨b1, o1 + (k + 1), none⟩ = some (.int .i64 (x : Int)) ∧ W.cell? ⟨b2, o2 + (k + 1), none⟩ = some (.int .i64 (y : Int)) from ⟨(hW.cell (World.block_lt_of_cell? _ _ s0)).trans s0, (hW.cell (World.block_lt_of_cell? _ _ s1)).trans s1, (hW.cell (World.block_lt_of_cell? _ _ s2)).trans s2, (hW.cell (World.block_lt_of_cell? _ _ s3)).trans s3⟩)
      go_upto_region 7 with (fail)
      have hc : Below wr.heap.size wr wr.drew := (Below.refl _ _).drew
      have hz0 : w.heap.size + 1 ≤ wr.heap.size := rowOf_lt HX.out
      go_region_held_law (fun w' => w'.cell? ⟨w.heap.size, 0, none⟩ = some (.slice (some ⟨b1, o1, none⟩) n1 c1) ∧ w'.cell? ⟨w.heap.size, 1, none⟩ = some (.slice (some ⟨b2, o2, none⟩) n1 c2) ∧ w'.cell? ⟨b1, o1 + (k + 1), none⟩ = some (.int .i64 (x : Int)) ∧ w'.cell? ⟨b2, o2 + (k + 1), none⟩ = some (.int .i64 (y : Int))) (first | exact HKp.out _ hc | go_keep) (first
        | (go_at_call 23; (with_reducible refine Calls.mono (HC2.out _ _ hI1) ?_); rintro e wn ⟨v2, rfl, hO, hb⟩; have hI2 := hO.is; have hF := hO.mono (Nat.le_trans hz0 hc.size); replace hc := bcall hc hb hc.size; clear hO hb)
        | (go_at_call 23; (with_reducible refine Calls.mono (HC1.out _ hc) ?_); rintro e wn ⟨v1, rfl, hO, hb⟩; have hI1 := hO.is; replace hc := bcall hc hb hc.size; clear hO hb))
      all_goals
        try simp only [List.getElem_toArray, List.getElem_cons_succ, List.getElem_cons_zero, Act.put, List.setIfInBounds_toArray, List.set_cons_zero, List.set_cons_succ]
        have hO2 := hF; have hb2 := hc
        have HO2 := Lib.hid hO2; have HB2 := Lib.hid (HB.out.trans (hb2.mono HB.out.size))
        have HX3 := Lib.hid (rowOf_below HX.out hb2 (rowOf_lt HX.out))
        clear hO2 hb2 HX HB HO
        go_wp2
        go_roundg (n1 - (k + 1))
        case measure => omega
        case rel => exact ⟨k + 1, _, by omega, by omega, by go_num, HB2.out, HX3.out, HO2.out, HQ.out⟩
    · have hlz : ¬ ((k + 1 : Nat) : Int) < (n1 : Int) := by omega
      have hk1 : k = n1 - 1 := by omega
      have hq := HEq.out
      rw [hk1, HSe.out, ← List.append_assoc] at hq
      have HEq2 := Lib.hid hq
      have HC0 := Lib.hid (HU.out wr u4 ys n3 (by omega) (by omega) HO.out.is)
      have s2 : wr.cell? ⟨w.heap.size, 2, none⟩ = some (.slice p3 n3 c3) := rowOf_cell HX.out 2
      clear hq HEq hk1 HSe HSs HLs hro1
      go_wp2_with fail
      refine (HC0.out).mono ?_
      rintro e w2 ⟨bv, rfl, hO, hb2⟩
      have HO2 := Lib.hid (hO.mono (show w.heap.size + 1 ≤ _ from rowOf_lt HX.out))
      have HB2 := Lib.hid (HB.out.trans (hb2.mono HB.out.size))
      have HX2 := Lib.hid (rowOf_below HX.out hb2 (rowOf_lt HX.out))
      clear hO hb2 HC0 HX HB s0 s1 s2 HO hlt hy
      go_wp2_with fail
      go_loopg [4, 6] n3 (fun gg b i wr => ∃ (k : Nat) (ys : List Int), k ≤ n3 ∧ n3 - k ≤ gg ∧ i = .int .i64 (k : Int) ∧ Hid (Below w.heap.size w wr) ∧ Hid (rowOf wr w.heap.size = some #[.slice p1 n1 c1, .slice p2 n1 c2, .slice p3 n3 c3, .slice p4 n4 c4]) ∧ Hid (RB.Own (w.heap.size + 1) wr b ys) ∧ Hid (ys ++ tailN g k = tot))
      case atStart => exact ⟨0, _, by omega, by omega, rfl, HB2.out, HX2.out, HO2.out, HEq2.out⟩
      case round =>
        clear HO2 HB2 HX2 HEq2
        obtain ⟨k, ys, hkn, hg, rfl, HB, HX, HO, HEq⟩ := hrel
        have s2 : wr.cell? ⟨w.heap.size, 2, none⟩ = some (.slice p3 n3 c3) := rowOf_cell HX.out 2
        have hy : ys.length ≤ 50000 := by have := HTot.out; rw [← HEq.out, List.length_append] at this; omega
        by_cases hlt : k < n3
        · have hlz : (k : Int) < (n3 : Int) := by omega
          obtain ⟨b1, o1, p', c', rfl, x0, x1, x2, x3, hin⟩ := hro3.out wr HB.out k hlt
          obtain ⟨⟨l1, l2, l3, l4⟩, l5, l6⟩ := HLn.out k hlt
          have hq := HEq.out
          rw [HNs.out k hlt] at hq
          have hIs := fun (i : Nat) (hi : i < g.nodes[k]!.prog.length) => tailI_step (g := g) (k := k) hi
          have hIe := tailI_end g k g.nodes[k]!
          generalize g.nodes[k]! = x at *
          obtain ⟨xk, xs, xa, xp⟩ := x
          simp only at x0 x1 x2 x3 hin l1 l2 l3 l4 l5 l6 hq hIs hIe
          generalize hT : (fun i => tailI g k ⟨xk, xs, xa, xp⟩ i) = T at *
          have hT : ∀ i, tailI g k ⟨xk, xs, xa, xp⟩ i = T i := fun i => congrFun hT i
          rw [hT] at hq hIe
          have hIs2 : ∀ (i : Nat), i < xp.length → T i = bytesOf xp[i]!.op.toNat ++ (bytesOf (zig xp[i]!.n) ++ T (i + 1)) := fun i hi => by rw [← hT, ← hT]; exact hIs i hi
          obtain ⟨x, rfl, hx, ex⟩ := lowNat l1
          obtain ⟨y, rfl, hyy, ey⟩ := lowNat l2
          rw [ex, ey, ← List.append_assoc, ← List.append_assoc, ← List.append_assoc, ← List.append_assoc] at hq
          have HQ := Lib.hid hq
          have HIn := Lib.hid hin; have HLo := Lib.hid l4; have HLi := Lib.hid l6; have HIs := Lib.hid hIs2; have HIe := Lib.hid hIe; have HLa := Lib.hid l5
          have hbx := bytes_len10 (n := x) (by omega)
          have hby := bytes_len10 (n := y) (by omega)
          have hbz := zig_len l5
          have hwx := wrapU (n := x) (by omega)
          have hwy := wrapU (n := y) (by omega)
          have hBx : rowOf (wr.alloc (.cells #[.int .i64 (x : Int), .int .i64 (y : Int), .int .i64 xa, .slice p' xp.length c'] 46)) wr.heap.size = some #[.int .i64 (x : Int), .int .i64 (y : Int), .int .i64 xa, .slice p' xp.length c'] := rowOf_alloc_at _ _ _ rfl
          have hX2 := row_old (o := .cells #[.int .i64 (x : Int), .int .i64 (y : Int), .int .i64 xa, .slice p' xp.length c'] 46) HX.out
          have hB2 := HB.out.alloc HB.out.size (.cells #[.int .i64 (x : Int), .int .i64 (y : Int), .int .i64 xa, .slice p' xp.length c'] 46)
          have HBx := Lib.hid hBx; have HX2 := Lib.hid hX2; have HB2 := Lib.hid hB2; have HO2 := Lib.hid (HO.out.alloc (.cells #[.int .i64 (x : Int), .int .i64 (y : Int), .int .i64 xa, .slice p' xp.length c'] 46))
          clear l1 l2 l4 l5 l6 ex ey hq hin hIs hIs2 hIe hT hro3 hro4 HLn HLe HNs HNe HEs HEe HEq hBx hX2 hB2
          generalize hm : xp.length = m at *
          clear hm
          have hwm := wrapU (n := m) (by omega)
          go_upto_region 13 with (fail)
          refine gen_world (fun W => Below w.heap.size w W ∧ rowOf W w.heap.size = some #[.slice p1 n1 c1, .slice p2 n1 c2, .slice (some ⟨b1, o1, none⟩) n3 c3, .slice p4 n4 c4] ∧ rowOf W wr.heap.size = some #[.int .i64 (x : Int), .int .i64 (y : Int), .int .i64 xa, .slice p' m c'] ∧ RB.Own (w.heap.size + 1) W u4 ys) ⟨HB2.out, HX2.out, HBx.out, HO2.out⟩ ?_
          rintro w5 ⟨hB5, hX5, hBx5, hO5⟩
          clear HB2 HX2 HBx HO2 HB HX HO x0 x1 x2 x3 s2
          generalize wr.heap.size = i5 at *
          have s0 : w5.cell? ⟨i5, 0, none⟩ = some (.int .i64 (x : Int)) := rowOf_cell hBx5 0
          have s1 : w5.cell? ⟨i5, 1, none⟩ = some (.int .i64 (y : Int)) := rowOf_cell hBx5 1
          have HB := Lib.hid hB5; have HX := Lib.hid hX5; have HBx := Lib.hid hBx5; have HO := Lib.hid hO5
          clear hB5 hX5 hBx5 hO5
          have HC1 := Lib.hid (fun W (hW : Below w5.heap.size w5 W) => (HU.out W u4 ys x (by first | omega | (simp only [List.length_append]; omega)) (by omega) (HO.out.is.below hW)))
          have HC2 := Lib.hid (fun W v (hv : RB.Is W v (ys ++ bytesOf x)) => (HU.out W v (ys ++ bytesOf x) y (by first | omega | (simp only [List.length_append]; omega)) (by omega) hv))
          have HKp := Lib.hid (fun W (hW : Below w5.heap.size w5 W) => show W.cell? ⟨i5, 0, none⟩ = some (.int .i64 (x : Int)) ∧ W.cell? ⟨i5, 1, none⟩ = some (.int .i64 (y : Int)) from ⟨(hW.cell (World.block_lt_of_cell? _ _ s0)).trans s0, (hW.cell (World.block_lt_of_cell? _ _ s1)).trans s1⟩)
          go_cut [4] from 49 to 101 (fun v wx => RB.Own (w.heap.size + 1) wx v ((ys ++ bytesOf x) ++ bytesOf y) ∧ Below w5.heap.size w5 wx)
          case first =>
            have hc : Below w5.heap.size w5 w5.drew := (Below.refl _ _).drew
            have hz0 : w.heap.size + 1 ≤ w5.heap.size := rowOf_lt HX.out
            go_region_held_law (fun w' => w'.cell? ⟨i5, 0, none⟩ = some (.int .i64 (x : Int)) ∧ w'.cell? ⟨i5, 1, none⟩ = some (.int .i64 (y : Int))) (first | exact HKp.out _ hc | go_keep) (first
              | (go_at_call 23; (with_reducible refine Calls.mono (HC2.out _ _ hI1) ?_); rintro e wn ⟨v2, rfl, hO, hb⟩; have hI2 := hO.is; have hF := hO.mono (Nat.le_trans hz0 hc.size); replace hc := bcall hc hb hc.size; clear hO hb)
              | (go_at_call 23; (with_reducible refine Calls.mono (HC1.out _ hc) ?_); rintro e wn ⟨v1, rfl, hO, hb⟩; have hI1 := hO.is; replace hc := bcall hc hb hc.size; clear hO hb))
            all_goals
              try simp only [List.getElem_toArray, List.getElem_cons_succ, List.getElem_cons_zero, Act.put, List.setIfInBounds_toArray, List.set_cons_zero, List.set_cons_succ]
              go_wp2_with fail
              go_meet
              case rel => exact ⟨hF, hc⟩
          case rest =>
            obtain ⟨hO2, hb2⟩ := hcut
            have HO2 := Lib.hid hO2; have HB2 := Lib.hid (HB.out.trans (hb2.mono HB.out.size))
            have HX3 := Lib.hid (rowOf_below HX.out hb2 (rowOf_lt HX.out))
            have HBx3 := Lib.hid (rowOf_below HBx.out hb2 (rowOf_lt HBx.out))
            clear hO2 hb2 HX HB HO HBx s0 s1 HC1 HC2 HKp
            have HB := Lib.hid HB2.out; have HO := Lib.hid HO2.out; have HX := Lib.hid HX3.out; have HBx := Lib.hid HBx3.out
            have s0 : wc.cell? ⟨i5, 2, none⟩ = some (.int .i64 xa) := rowOf_cell HBx3.out 2
            have s1 : wc.cell? ⟨i5, 3, none⟩ = some (.slice p' m c') := rowOf_cell HBx3.out 3
            clear HB2 HO2 HX3 HBx3
            have HC1 := Lib.hid (fun W (hW : Below wc.heap.size wc W) => (HI.out W u4 ((ys ++ bytesOf x) ++ bytesOf y) xa (by first | omega | (simp only [List.length_append]; omega)) HLa.out (HO.out.is.below hW)))
            have HC2 := Lib.hid (fun W v (hv : RB.Is W v (((ys ++ bytesOf x) ++ bytesOf y) ++ bytesOf (zig xa))) => (HU.out W v (((ys ++ bytesOf x) ++ bytesOf y) ++ bytesOf (zig xa)) m (by first | omega | (simp only [List.length_append]; omega)) (by omega) hv))
            have HKp := Lib.hid (fun W (hW : Below wc.heap.size wc W) => show W.cell? ⟨i5, 2, none⟩ = some (.int .i64 xa) ∧ W.cell? ⟨i5, 3, none⟩ = some (.slice p' m c') from ⟨(hW.cell (World.block_lt_of_cell? _ _ s0)).trans s0, (hW.cell (World.block_lt_of_cell? _ _ s1)).trans s1⟩)
            go_upto_region 14 with (fail)
            go_cut [4] from 49 to 101 (fun v wx => RB.Own (w.heap.size + 1) wx v ((((ys ++ bytesOf x) ++ bytesOf y) ++ bytesOf (zig xa)) ++ bytesOf m) ∧ Below wc.heap.size wc wx)
            case first =>
              have hc : Below wc.heap.size wc wc.drew := (Below.refl _ _).drew
              have hz0 : w.heap.size + 1 ≤ wc.heap.size := rowOf_lt HX.out
              go_region_held_law (fun w' => w'.cell? ⟨i5, 2, none⟩ = some (.int .i64 xa) ∧ w'.cell? ⟨i5, 3, none⟩ = some (.slice p' m c')) (first | exact HKp.out _ hc | go_keep) (first
                | (go_at_call 23; (with_reducible refine Calls.mono (HC2.out _ _ hI1) ?_); rintro e wn ⟨v2, rfl, hO, hb⟩; have hI2 := hO.is; have hF := hO.mono (Nat.le_trans hz0 hc.size); replace hc := bcall hc hb hc.size; clear hO hb)
                | (go_at_call 24; (with_reducible refine Calls.mono (HC1.out _ hc) ?_); rintro e wn ⟨v1, rfl, hO, hb⟩; have hI1 := hO.is; replace hc := bcall hc hb hc.size; clear hO hb))
              all_goals
                try simp only [List.getElem_toArray, List.getElem_cons_succ, List.getElem_cons_zero, Act.put, List.setIfInBounds_toArray, List.set_cons_zero, List.set_cons_succ]
                go_wp2_with fail
                go_meet
                case rel => exact ⟨hF, hc⟩
            case rest =>
              obtain ⟨hO2, hb2⟩ := hcut
              have HO2 := Lib.hid hO2; have HB2 := Lib.hid (HB.out.trans (hb2.mono HB.out.size))
              have HX3 := Lib.hid (rowOf_below HX.out hb2 (rowOf_lt HX.out))
              have HBx3 := Lib.hid (rowOf_below HBx.out hb2 (rowOf_lt HBx.out))
              clear hO2 hb2 HX HB HO HBx s0 s1 HC1 HC2 HKp
              go_wp2_with fail
              go_loopg [4, 8] m (fun gg b i wr => ∃ (k3 : Nat) (ys : List Int), k3 ≤ m ∧ m - k3 ≤ gg ∧ i = .int .i64 (k3 : Int) ∧ Hid (Below w.heap.size w wr) ∧ Hid (rowOf wr w.heap.size = some #[.slice p1 n1 c1, .slice p2 n1 c2, .slice (some ⟨b1, o1, none⟩) n3 c3, .slice p4 n4 c4]) ∧ Hid (rowOf wr i5 = some #[.int .i64 (x : Int), .int .i64 (y : Int), .int .i64 xa, .slice p' m c']) ∧ Hid (RB.Own (w.heap.size + 1) wr b ys) ∧ Hid (ys ++ T k3 = tot))
              case atStart => exact ⟨0, _, by omega, by omega, rfl, HB2.out, HX3.out, HBx3.out, HO2.out, HQ.out⟩
              case round =>
                clear HO2 HB2 HX3 HBx3 HQ
                obtain ⟨k3, ys, hkn3, hg3, rfl, HB, HX, HBx, HO, HEq⟩ := hrel
                have s0 : wr.cell? ⟨i5, 3, none⟩ = some (.slice p' m c') := rowOf_cell HBx.out 3
                have hy : ys.length ≤ 50000 := by have := HTot.out; rw [← HEq.out, List.length_append] at this; omega
                by_cases hlt3 : k3 < m
                · have hlz3 : (k3 : Int) < (m : Int) := by omega
                  obtain ⟨b7, of7, rfl, s1, s2⟩ := HIn.out wr HB.out k3 hlt3
                  have l4 := HLo.out k3 hlt3
                  have l6 := HLi.out k3 hlt3
                  have hq := HEq.out
                  rw [HIs.out k3 hlt3] at hq
                  generalize xp[k3]!.op = zo at *
                  generalize xp[k3]!.n = zn at *
                  obtain ⟨zo, rfl, hzo, ezo⟩ := lowNat l4
                  rw [ezo, ← List.append_assoc, ← List.append_assoc] at hq
                  have HQ := Lib.hid hq; have HLz := Lib.hid l6
                  have hbo := bytes_len10 (n := zo) (by omega)
                  have hwo := wrapU (n := zo) (by omega)
                  clear l4 l6 ezo hq HIn HLo HLi HIs HIe HEq
                  have HC1 := Lib.hid (fun W (hW : Below wr.heap.size wr W) => (HU.out W u4 ys zo (by first | omega | (simp only [List.length_append]; omega)) (by omega) (HO.out.is.below hW)))
                  have HC2 := Lib.hid (fun W v (hv : RB.Is W v (ys ++ bytesOf zo)) => (HI.out W v (ys ++ bytesOf zo) zn (by first | omega | (simp only [List.length_append]; omega)) HLz.out hv))
                  have HKp := Lib.hid (fun W (hW : Below wr.heap.size wr W) => show W.cell? ⟨i5, 3, none⟩ = some (.slice (some ⟨b7, of7, none⟩) m c') ∧ W.cell? ⟨b7, of7 + k3 * 2, none⟩ = some (.int .i64 (zo : Int)) ∧ W.cell? ⟨b7, of7 + k3 * 2 + 1, none⟩ = some (.int .i64 zn) from ⟨(hW.cell (World.block_lt_of_cell? _ _ s0)).trans s0, (hW.cell (World.block_lt_of_cell? _ _ s1)).trans s1, (hW.cell (World.block_lt_of_cell? _ _ s2)).trans s2⟩)
                  go_upto_region 18 with (fail)
                  have hc : Below wr.heap.size wr wr.drew := (Below.refl _ _).drew
                  have hz0 : w.heap.size + 1 ≤ wr.heap.size := rowOf_lt HX.out
                  go_region_held_law (fun w' => w'.cell? ⟨i5, 3, none⟩ = some (.slice (some ⟨b7, of7, none⟩) m c') ∧ w'.cell? ⟨b7, of7 + k3 * 2, none⟩ = some (.int .i64 (zo : Int)) ∧ w'.cell? ⟨b7, of7 + k3 * 2 + 1, none⟩ = some (.int .i64 zn)) (first | exact HKp.out _ hc | go_keep) (first
                    | (go_at_call 24; (with_reducible refine Calls.mono (HC2.out _ _ hI1) ?_); rintro e wn ⟨v2, rfl, hO, hb⟩; have hI2 := hO.is; have hF := hO.mono (Nat.le_trans hz0 hc.size); replace hc := bcall hc hb hc.size; clear hO hb)
                    | (go_at_call 23; (with_reducible refine Calls.mono (HC1.out _ hc) ?_); rintro e wn ⟨v1, rfl, hO, hb⟩; have hI1 := hO.is; replace hc := bcall hc hb hc.size; clear hO hb))
                  all_goals
                    try simp only [List.getElem_toArray, List.getElem_cons_succ, List.getElem_cons_zero, Act.put, List.setIfInBounds_toArray, List.set_cons_zero, List.set_cons_succ]
                    have hO2 := hF; have hb2 := hc
                    have HO2 := Lib.hid hO2; have HB2 := Lib.hid (HB.out.trans (hb2.mono HB.out.size))
                    have HX3 := Lib.hid (rowOf_below HX.out hb2 (rowOf_lt HX.out))
                    have HBx3 := Lib.hid (rowOf_below HBx.out hb2 (rowOf_lt HBx.out))
                    clear hO2 hb2 HX HB HO HBx s0 s1 s2 HC1 HC2 HKp
                    go_wp2
                    go_roundg (m - (k3 + 1))
                    case measure => omega
                    case rel => exact ⟨k3 + 1, _, by omega, by omega, by go_num, HB2.out, HX3.out, HBx3.out, HO2.out, HQ.out⟩
                · have hlz3 : ¬ (k3 : Int) < (m : Int) := by omega
                  obtain rfl : k3 = m := by omega
                  have hq := HEq.out
                  rw [HIe.out] at hq
                  have HQ := Lib.hid hq
                  clear hq HIn HLo HLi HIs HIe HEq
                  go_wp2
                  go_roundg (n3 - (k + 1))
                  case measure => omega
                  case rel => exact ⟨k + 1, _, by omega, by omega, by go_num, HB.out, HX.out, HO.out, HQ.out⟩
        · have hlz : ¬ (k : Int) < (n3 : Int) := by omega
          obtain rfl : k = n3 := by omega
          have hq := HEq.out
          rw [HNe.out, ← List.append_assoc] at hq
          have HEq2 := Lib.hid hq
          have HC0 := Lib.hid (HU.out wr u4 ys n4 (by omega) (by omega) HO.out.is)
          have s3 : wr.cell? ⟨w.heap.size, 3, none⟩ = some (.slice p4 n4 c4) := rowOf_cell HX.out 3
          clear hq HEq HNe HNs HLn hro3
          go_wp2_with fail
          refine (HC0.out).mono ?_
          rintro e w2 ⟨bv, rfl, hO, hb2⟩
          have HO2 := Lib.hid (hO.mono (show w.heap.size + 1 ≤ _ from rowOf_lt HX.out))
          have HB2 := Lib.hid (HB.out.trans (hb2.mono HB.out.size))
          have HX2 := Lib.hid (rowOf_below HX.out hb2 (rowOf_lt HX.out))
          clear hO hb2 HC0 HX HB s2 s3 HO hy
          go_wp2_with fail
          go_loopg [4, 9] n4 (fun gg b i wr => ∃ (k4 : Nat) (ys : List Int), k4 ≤ n4 ∧ n4 - k4 ≤ gg ∧ i = .int .i64 (k4 : Int) ∧ Hid (Below w.heap.size w wr) ∧ Hid (rowOf wr w.heap.size = some #[.slice p1 n1 c1, .slice p2 n1 c2, .slice p3 k c3, .slice p4 n4 c4]) ∧ Hid (RB.Own (w.heap.size + 1) wr b ys) ∧ Hid (ys ++ tailE g k4 = tot))
          case atStart => exact ⟨0, _, by omega, by omega, rfl, HB2.out, HX2.out, HO2.out, HEq2.out⟩
          case round =>
            clear HO2 HB2 HX2 HEq2
            obtain ⟨k4, ys, hkn4, hg4, rfl, HB, HX, HO, HEq⟩ := hrel
            have s3 : wr.cell? ⟨w.heap.size, 3, none⟩ = some (.slice p4 n4 c4) := rowOf_cell HX.out 3
            have hy : ys.length ≤ 50000 := by have := HTot.out; rw [← HEq.out, List.length_append] at this; omega
            by_cases hlt4 : k4 < n4
            · have hlz4 : (k4 : Int) < (n4 : Int) := by omega
              obtain ⟨b1, o1, rfl, x0, x1, x2, x3⟩ := hro4.out wr HB.out k4 hlt4
              obtain ⟨l1, l2, l3⟩ := HLe.out k4 hlt4
              have hq := HEq.out
              rw [HEs.out k4 hlt4] at hq
              generalize g.edges[k4]! = x at *
              obtain ⟨xa, xb, xc, xe⟩ := x
              simp only at x0 x1 x2 x3 l1 l2 l3 hq
              obtain ⟨x, rfl, hx, ex⟩ := lowNat l1
              obtain ⟨y, rfl, hyy, ey⟩ := lowNat l2
              obtain ⟨z, rfl, hzz, ez⟩ := lowNat l3
              rw [ex, ey, ez, ← List.append_assoc, ← List.append_assoc, ← List.append_assoc, ← List.append_assoc] at hq
              have HQ := Lib.hid hq
              have hbx := bytes_len10 (n := x) (by omega)
              have hby := bytes_len10 (n := y) (by omega)
              have hbz := bytes_len10 (n := z) (by omega)
              have hwx := wrapU (n := x) (by omega)
              have hwy := wrapU (n := y) (by omega)
              have hwz := wrapU (n := z) (by omega)
              have hBx : rowOf (wr.alloc (.cells #[.int .i64 (x : Int), .int .i64 (y : Int), .int .i64 (z : Int), .bool xe] 58)) wr.heap.size = some #[.int .i64 (x : Int), .int .i64 (y : Int), .int .i64 (z : Int), .bool xe] := rowOf_alloc_at _ _ _ rfl
              have hX2 := row_old (o := .cells #[.int .i64 (x : Int), .int .i64 (y : Int), .int .i64 (z : Int), .bool xe] 58) HX.out
              have hB2 := HB.out.alloc HB.out.size (.cells #[.int .i64 (x : Int), .int .i64 (y : Int), .int .i64 (z : Int), .bool xe] 58)
              have HBx := Lib.hid hBx; have HX2 := Lib.hid hX2; have HB2 := Lib.hid hB2; have HO2 := Lib.hid (HO.out.alloc (.cells #[.int .i64 (x : Int), .int .i64 (y : Int), .int .i64 (z : Int), .bool xe] 58))
              clear l1 l2 l3 ex ey ez hq hro4 HLe HEs HEe HEq hBx hX2 hB2
              go_upto_region 24 with (fail)
              refine gen_world (fun W => Below w.heap.size w W ∧ rowOf W w.heap.size = some #[.slice p1 n1 c1, .slice p2 n1 c2, .slice p3 k c3, .slice (some ⟨b1, o1, none⟩) n4 c4] ∧ rowOf W wr.heap.size = some #[.int .i64 (x : Int), .int .i64 (y : Int), .int .i64 (z : Int), .bool xe] ∧ RB.Own (w.heap.size + 1) W u4 ys) ⟨HB2.out, HX2.out, HBx.out, HO2.out⟩ ?_
              rintro w5 ⟨hB5, hX5, hBx5, hO5⟩
              clear HB2 HX2 HBx HO2 HB HX HO x0 x1 x2 x3 s3
              generalize wr.heap.size = i5 at *
              have s0 : w5.cell? ⟨i5, 0, none⟩ = some (.int .i64 (x : Int)) := rowOf_cell hBx5 0
              have s1 : w5.cell? ⟨i5, 1, none⟩ = some (.int .i64 (y : Int)) := rowOf_cell hBx5 1
              have s2 : w5.cell? ⟨i5, 2, none⟩ = some (.int .i64 (z : Int)) := rowOf_cell hBx5 2
              have HB := Lib.hid hB5; have HX := Lib.hid hX5; have HBx := Lib.hid hBx5; have HO := Lib.hid hO5
              clear hB5 hX5 hBx5 hO5
              have HC1 := Lib.hid (fun W (hW : Below w5.heap.size w5 W) => (HU.out W u4 ys x (by first | omega | (simp only [List.length_append]; omega)) (by omega) (HO.out.is.below hW)))
              have HC2 := Lib.hid (fun W v (hv : RB.Is W v (ys ++ bytesOf x)) => (HU.out W v (ys ++ bytesOf x) y (by first | omega | (simp only [List.length_append]; omega)) (by omega) hv))
              have HC3 := Lib.hid (fun W v (hv : RB.Is W v ((ys ++ bytesOf x) ++ bytesOf y)) => (HU.out W v ((ys ++ bytesOf x) ++ bytesOf y) z (by first | omega | (simp only [List.length_append]; omega)) (by omega) hv))
              have HKp := Lib.hid (fun W (hW : Below w5.heap.size w5 W) => show W.cell? ⟨i5, 0, none⟩ = some (.int .i64 (x : Int)) ∧ W.cell? ⟨i5, 1, none⟩ = some (.int .i64 (y : Int)) ∧ W.cell? ⟨i5, 2, none⟩ = some (.int .i64 (z : Int)) from ⟨(hW.cell (World.block_lt_of_cell? _ _ s0)).trans s0, (hW.cell (World.block_lt_of_cell? _ _ s1)).trans s1, (hW.cell (World.block_lt_of_cell? _ _ s2)).trans s2⟩)
              go_cut [4] from 108 to 140 (fun v wx => RB.Own (w.heap.size + 1) wx v (((ys ++ bytesOf x) ++ bytesOf y) ++ bytesOf z) ∧ Below w5.heap.size w5 wx)
              case first =>
                have hc : Below w5.heap.size w5 w5.drew := (Below.refl _ _).drew
                have hz0 : w.heap.size + 1 ≤ w5.heap.size := rowOf_lt HX.out
                go_region_held_law (fun w' => w'.cell? ⟨i5, 0, none⟩ = some (.int .i64 (x : Int)) ∧ w'.cell? ⟨i5, 1, none⟩ = some (.int .i64 (y : Int)) ∧ w'.cell? ⟨i5, 2, none⟩ = some (.int .i64 (z : Int))) (first | exact HKp.out _ hc | go_keep) (first
                  | (go_at_call 23; (with_reducible refine Calls.mono (HC3.out _ _ hI2) ?_); rintro e wn ⟨v3, rfl, hO, hb⟩; have hI3 := hO.is; have hF := hO.mono (Nat.le_trans hz0 hc.size); replace hc := bcall hc hb hc.size; clear hO hb)
                  | (go_at_call 23; (with_reducible refine Calls.mono (HC2.out _ _ hI1) ?_); rintro e wn ⟨v2, rfl, hO, hb⟩; have hI2 := hO.is; replace hc := bcall hc hb hc.size; clear hO hb)
                  | (go_at_call 23; (with_reducible refine Calls.mono (HC1.out _ hc) ?_); rintro e wn ⟨v1, rfl, hO, hb⟩; have hI1 := hO.is; replace hc := bcall hc hb hc.size; clear hO hb))
                all_goals
                  try simp only [List.getElem_toArray, List.getElem_cons_succ, List.getElem_cons_zero, Act.put, List.setIfInBounds_toArray, List.set_cons_zero, List.set_cons_succ]
                  go_wp2_with fail
                  go_meet
                  case rel => exact ⟨hF, hc⟩
              case rest =>
                obtain ⟨hO2, hb2⟩ := hcut
                have HO2 := Lib.hid hO2; have HB2 := Lib.hid (HB.out.trans (hb2.mono HB.out.size))
                have HX3 := Lib.hid (rowOf_below HX.out hb2 (rowOf_lt HX.out))
                have e3 : wc.cell? ⟨i5, 3, none⟩ = some (.bool xe) := rowOf_cell (rowOf_below HBx.out hb2 (rowOf_lt HBx.out)) 3
                have hyl : (((ys ++ bytesOf x) ++ bytesOf y) ++ bytesOf z).length ≤ 900000 := by simp only [List.length_append]; omega
                have HYl := Lib.hid hyl
                clear hO2 hb2 HX HB HO HBx s0 s1 s2 HC1 HC2 HC3 HKp hyl hbx hby hbz
                cases xe
                · go_wp2_with (at_builtin; refine RowKind.Own.append (R := RB) (w := wc.alloc (.cells (RB.enc (0 : Int)).toArray 5)) rfl _ _ rfl (HO2.out.alloc _) rfl [(0 : Int)] rfl (RowKind.Row.app (ys := [(0 : Int)]) (RowKind.Row.new (R := RB) wc (0 : Int) 5)) (by have := HYl.out; rw [List.length_singleton]; omega) (Nat.le_trans (rowOf_lt HX3.out) (by simp)) ?_; intro v6 w6 hO6 hg6; have hlt6 := (HO2.out.alloc (.cells (RB.enc (0 : Int)).toArray 5)).lt; have HB6 := Lib.hid ((HB2.out.alloc HB2.out.size (.cells (RB.enc (0 : Int)).toArray 5)).grown hg6 (Nat.le_trans HB2.out.size (by simp)) (fun k hk => Nat.le_of_succ_le (hlt6 k hk).1)); have HX6 := Lib.hid ((rowOf_block (hg6.block w.heap.size (Nat.lt_trans (rowOf_lt HX3.out) (by simp)) (fun e => absurd (hlt6 _ e.symm).1 (by omega)))).trans (row_old (o := .cells (RB.enc (0 : Int)).toArray 5) HX3.out)); have HO6 := Lib.hid hO6; clear hO6 hg6 hlt6)
                  go_roundg (n4 - (k4 + 1))
                  case measure => omega
                  case rel => exact ⟨k4 + 1, _, by omega, by omega, by go_num, HB6.out, HX6.out, HO6.out, HQ.out⟩
                · go_wp2_with (at_builtin; refine RowKind.Own.append (R := RB) (w := wc.alloc (.cells (RB.enc (1 : Int)).toArray 5)) rfl _ _ rfl (HO2.out.alloc _) rfl [(1 : Int)] rfl (RowKind.Row.app (ys := [(1 : Int)]) (RowKind.Row.new (R := RB) wc (1 : Int) 5)) (by have := HYl.out; rw [List.length_singleton]; omega) (Nat.le_trans (rowOf_lt HX3.out) (by simp)) ?_; intro v6 w6 hO6 hg6; have hlt6 := (HO2.out.alloc (.cells (RB.enc (1 : Int)).toArray 5)).lt; have HB6 := Lib.hid ((HB2.out.alloc HB2.out.size (.cells (RB.enc (1 : Int)).toArray 5)).grown hg6 (Nat.le_trans HB2.out.size (by simp)) (fun k hk => Nat.le_of_succ_le (hlt6 k hk).1)); have HX6 := Lib.hid ((rowOf_block (hg6.block w.heap.size (Nat.lt_trans (rowOf_lt HX3.out) (by simp)) (fun e => absurd (hlt6 _ e.symm).1 (by omega)))).trans (row_old (o := .cells (RB.enc (1 : Int)).toArray 5) HX3.out)); have HO6 := Lib.hid hO6; clear hO6 hg6 hlt6)
                  go_roundg (n4 - (k4 + 1))
                  case measure => omega
                  case rel => exact ⟨k4 + 1, _, by omega, by omega, by go_num, HB6.out, HX6.out, HO6.out, HQ.out⟩
            · have hlz4 : ¬ (k4 : Int) < (n4 : Int) := by omega
              obtain rfl : k4 = n4 := by omega
              have hq := HEq.out
              rw [HEe.out, List.append_nil] at hq
              subst hq
              clear hro4 HLe HEs HEe HEq
              go_wp2
              go_returns
              exact ⟨_, rfl, HO.out.mono (Nat.le_succ _), HB.out⟩
end Go.Proofs.Ytdhmoiiagplbpaa
