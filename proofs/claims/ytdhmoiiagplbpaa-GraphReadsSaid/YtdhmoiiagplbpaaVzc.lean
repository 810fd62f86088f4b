/- graph.putNodes -/
import Derived.Test.YtdhmoiiagplbpaaVza
import Derived.Deep.RegionHeldLaw
import Derived.Deep.CutRange
namespace Go.Proofs.Ytdhmoiiagplbpaa
open Go.RowKit
set_option linter.unusedVariables false
set_option linter.unusedSimpArgs false

theorem Appd.ofDrew (w : World) (v : Value) : Appd w w.drew v v := ⟨⟨rfl, rfl, rfl, Nat.le_refl _, fun _ _ _ => rfl⟩, .inl rfl⟩
set_option maxRecDepth 100000 in
set_option maxHeartbeats 16000000 in
theorem pnodes_any (g : GV) (v : Value) (bs tot : List Int) (nv : Value) (w0 w : World) (hf : g.nodes.length ≤ 32 ∧ ∀ e ∈ g.nodes, fitsN e) (hk : okG g) (hB : Below w0.heap.size w0 w) (hE : IsNs w0 nv g.nodes) (ho : OwnF w0.heap.size w v bs) (ht : bs ++ (bytesOf g.nodes.length ++ tailN g 0) = tot) (hl : tot.length ≤ 60000) :
    Calls Try.prog 20 #[v, nv] w (PutT w0.heap.size w v (bytesOf g.edges.length ++ tailE g 0) tot) := by
  obtain ⟨hn64, hlow⟩ := hf
  obtain ⟨xs, hE, hA1, hA2⟩ := hE
  obtain ⟨p, c, rfl, hop⟩ := hE.opened
  have HLo := Lib.hid (fun j (hj : j < g.nodes.length) => show fitsN g.nodes[j]! ∧ okN g.nodes[j]! by rw [getElem!_pos g.nodes j hj]; exact ⟨hlow _ (List.getElem_mem _), hk _ (List.getElem_mem _)⟩)
  have HSt := Lib.hid (fun j (h : j < g.nodes.length) => tailN_step (g := g) h)
  have HEnd := Lib.hid (tailN_end g)
  have HIn := Lib.hid (fun j (hj : j < g.nodes.length) => hA2 j hj)
  have HRow := Lib.hid (fun j (hj : j < g.nodes.length) => show ∃ b off, p = some ⟨b, off, none⟩ ∧ ∀ W, Below w0.heap.size w0 W → _ from by
    obtain ⟨b, off, e, hb, hr⟩ := hop j (by rw [hA1]; exact hj)
    exact ⟨b, off, e, fun W hW => atW (hr.below hW hb) j (by rw [hA1]; exact hj)⟩)
  rw [hA1]
  clear hop hlow hE hA1 hA2 hk
  generalize hn : g.nodes.length = n at *
  clear hn
  have HT0 := Lib.hid ht
  have HL := Lib.hid hl
  have HBw := Lib.hid hB
  have hbs : bs.length + 10 * 1 ≤ 900000 := by rw [← ht, List.length_append] at hl; omega
  have HP := Lib.hid (put_lit [(n : Int)] w0.heap.size v bs w w.heap.size 1 3 rfl rfl (by simp; omega) hbs ho hB.size)
  rw [flat1, Int.toNat_natCast] at HP
  have HvB : Hid (∀ k, v.ownBlock = some k → w0.heap.size ≤ k) := fun k hk => (ho.lt k hk).1
  clear ht hl hB ho hbs
  go_enter Try.func20, Try.ntmps20
  go_wp2_with fail
  refine (HP.out).mono ?_
  rintro ee w2 ⟨v2, rfl, hO2, hA2⟩
  have HO2 := Lib.hid hO2; have HA2 := Lib.hid hA2
  clear hO2 hA2 HP
  go_wp2_with fail
  go_loopg [0, 16] 33 (fun gg u9 i wr => ∃ (k : Nat) (u : Value) (ys : List Int), u = u9 ∧ k ≤ n ∧ n - k ≤ gg ∧ i = .int .i64 (k : Int) ∧ Hid (OwnF w0.heap.size wr u ys) ∧ Hid (ys ++ tailN g k = tot) ∧ Hid (Appd w wr v u))
  case atStart => exact ⟨0, _, _, rfl, by omega, by omega, rfl, HO2.out, (by show _ = _; rw [← HT0.out, List.append_assoc]), HA2.out⟩
  case round =>
    clear HO2 HA2 HT0
    obtain ⟨k, u, ys, rfl, hkn, hg, rfl, HO, HT, HA⟩ := hrel
    by_cases hlt : k < n
    · have hlz : (k : Int) < (n : Int) := by omega
      have HBr := Lib.hid (HA.out.below HBw.out HBw.out.size HvB.out)
      obtain ⟨b, off, rfl, hcs⟩ := HRow.out k hlt
      obtain ⟨x0, x1, x2, x3⟩ := hcs wr HBr.out
      obtain ⟨⟨l0, l1, l2, l3⟩, l4, l5⟩ := HLo.out k hlt
      obtain ⟨i0, i1, i2, i3⟩ := HIn.out k hlt
      have htt := HT.out
      rw [HSt.out k hlt] at htt
      have HSi := Lib.hid (fun i (h : i < g.nodes[k]!.prog.length) => tailI_step (g := g) (k := k) h)
      have HEi := Lib.hid (tailI_end g k g.nodes[k]!)
      clear hcs
      generalize g.nodes[k]! = x at *
      generalize xs[k]! = r at *
      obtain ⟨k1, s1, a1, p1, n1, c1⟩ := r
      simp only at x0 x1 x2 x3 i0 i1 i2 i3
      rw [← i0] at l0 htt; rw [← i1] at l1 htt; rw [← i2] at l4 htt
      obtain ⟨q1, d1, e1, hop⟩ := i3.opened
      simp only [Value.slice.injEq] at e1
      obtain ⟨rfl, rfl, rfl⟩ := e1
      have HLi := Lib.hid (fun j (hj : j < x.prog.length) => show lowN x.prog[j]!.op ∧ inR x.prog[j]!.n by rw [getElem!_pos x.prog j hj]; exact ⟨l3 _ (List.getElem_mem _), l5 _ (List.getElem_mem _)⟩)
      have HRi := Lib.hid (fun j (hj : j < x.prog.length) => show ∃ b off, p1 = some ⟨b, off, none⟩ ∧ ∀ W, Below w0.heap.size w0 W → _ from by
        obtain ⟨b, off, e, hb, hr⟩ := hop j hj
        exact ⟨b, off, e, fun W hW => atC7 (hr.below hW hb) j hj⟩)
      clear hop i3 i0 i1 i2 l3 l5
      generalize hm : x.prog.length = m at *
      clear hm
      have HTT := Lib.hid htt
      have hyl : ys.length + 10 * 20 ≤ 900000 := by have := HL.out; rw [← htt, List.length_append] at this; omega
      have hau : u.ownBlock ≠ some wr.heap.size := fun e => by have := (HO.out.lt _ e).2; omega
      have HXN : Hid ((wr.alloc (.cells #[.int .i64 k1, .int .i64 s1, .int .i64 a1, .slice p1 m c1] 46)).heap[wr.heap.size]? = some (.cells #[.int .i64 k1, .int .i64 s1, .int .i64 a1, .slice p1 m c1] 46 (0, 0))) := heap_alloc_new wr _
      have hxl : wr.heap.size < (wr.alloc (.cells #[.int .i64 k1, .int .i64 s1, .int .i64 a1, .slice p1 m c1] 46)).heap.size := by simp
      have HC := Lib.hid (put_lit [k1, s1] w0.heap.size u ys (wr.alloc (.cells #[.int .i64 k1, .int .i64 s1, .int .i64 a1, .slice p1 m c1] 46)) (wr.heap.size + 1) 2 3 (by simp) rfl (by intro z hz; simp at hz; rcases hz with rfl | rfl <;> exact low63 (by assumption)) (by simp; omega) (HO.out.alloc _) (by simp; have := HBr.out.size; omega))
      rw [flat2] at HC
      have HAw := Lib.hid (HA.out.trans (Appd.ofBelow (w1 := wr.alloc (.cells #[.int .i64 k1, .int .i64 s1, .int .i64 a1, .slice p1 m c1] 46)) ((Below.refl wr.heap.size wr).alloc (Nat.le_refl _) _) u))
      have HBa := Lib.hid (HBr.out.alloc HBr.out.size (.cells #[.int .i64 k1, .int .i64 s1, .int .i64 a1, .slice p1 m c1] 46))
      have HuB : Hid (∀ k, u.ownBlock = some k → w0.heap.size ≤ k) := fun k hk => (HO.out.lt k hk).1
      have HAu := Lib.hid hau; have HXl := Lib.hid hxl; have HYl := Lib.hid hyl; have HL4 := Lib.hid l4
      clear htt hau HO HA HT HRow HSt HLo HIn HBr hyl hxl l4
      go_wp2_with fail
      refine (HC.out).mono ?_
      rintro ee w3 ⟨v3, rfl, hO3, hA3⟩
      clear HC
      generalize hxb : wr.heap.size = xb at *
      generalize wr.alloc (.cells #[.int .i64 k1, .int .i64 s1, .int .i64 a1, .slice p1 m c1] 46) = wN at *
      clear hxb x0 x1 x2 x3
      have hr3 := hA3.row HXN.out HAu.out
      have hw3 : rowOf w3 xb = some #[.int .i64 k1, .int .i64 s1, .int .i64 a1, .slice p1 m c1] := by unfold rowOf; rw [hr3]; rfl
      have z2 : w3.cell? ⟨xb, 2, none⟩ = some (.int .i64 a1) := rowOf_cell hw3 2
      have HC := Lib.hid (putS_any a1 w0.heap.size v3 _ w3 HL4.out (by have := HYl.out; have h1 := low_len l0; have h2 := low_len l1; simp only [List.length_append]; omega) hO3 (Nat.le_trans HBa.out.size hA3.grown.size))
      have HO3 := Lib.hid hO3; have HA3 := Lib.hid hA3
      clear hr3 hw3 hO3 hA3
      go_wp2_with fail
      refine (HC.out).mono ?_
      rintro ee w4 ⟨v4, rfl, hO4, hA4⟩
      have HA4 := Lib.hid (HA3.out.trans hA4)
      clear HC hA4 HO3 HA3 z2
      have hr3 := HA4.out.row HXN.out HAu.out
      have hw3 : rowOf w4 xb = some #[.int .i64 k1, .int .i64 s1, .int .i64 a1, .slice p1 m c1] := by unfold rowOf; rw [hr3]; rfl
      have z3 : w4.cell? ⟨xb, 3, none⟩ = some (.slice p1 m c1) := rowOf_cell hw3 3
      have HC := Lib.hid (put_lit [(m : Int)] w0.heap.size v4 _ w4 w4.heap.size 1 3 rfl rfl (by simp; omega) (by have := HYl.out; have h1 := low_len l0; have h2 := low_len l1; have h3 := zig_len HL4.out; simp only [List.length_append, List.length_cons, List.length_nil]; omega) hO4 (Nat.le_trans HBa.out.size HA4.out.grown.size))
      rw [flat1, Int.toNat_natCast] at HC
      clear hr3 hw3 hO4
      go_wp2_with fail
      refine (HC.out).mono ?_
      rintro ee w5 ⟨v5, rfl, hO5, hA5⟩
      have HA5 := Lib.hid (HA4.out.trans hA5)
      have HO5 := Lib.hid hO5
      clear HC hA5 HA4 hO5 z3
      have hr3 := HA5.out.row HXN.out HAu.out
      have hw3 : rowOf w5 xb = some #[.int .i64 k1, .int .i64 s1, .int .i64 a1, .slice p1 m c1] := by unfold rowOf; rw [hr3]; rfl
      have z3 : w5.cell? ⟨xb, 3, none⟩ = some (.slice p1 m c1) := rowOf_cell hw3 3
      clear hr3 hw3
      go_wp2_with fail
      go_loopg [0, 40] 65 (fun gg u9 i wi => ∃ (j : Nat) (s : Value) (zs : List Int), s = u9 ∧ j ≤ m ∧ m - j ≤ gg ∧ i = .int .i64 (j : Int) ∧ Hid (OwnF w0.heap.size wi s zs) ∧ Hid (zs ++ tailI g k x j = tot) ∧ Hid (Appd wN wi u s))
      case atStart => exact ⟨0, _, _, rfl, by omega, by omega, rfl, HO5.out, (by show _ = _; rw [← HTT.out]; simp only [List.append_assoc]), HA5.out⟩
      case round =>
        clear HO5 HA5 HTT z3
        obtain ⟨j, s, zs, rfl, hjm, hgj, rfl, HO, HT, HA⟩ := hrel
        by_cases hltj : j < m
        · have hlzj : (j : Int) < (m : Int) := by omega
          have HBi := Lib.hid (HA.out.below HBa.out HBa.out.size HuB.out)
          obtain ⟨b3, off3, rfl, hcs⟩ := HRi.out j hltj
          obtain ⟨e0, e1⟩ := hcs wr HBi.out
          obtain ⟨l6, l7⟩ := HLi.out j hltj
          have htt := HT.out
          rw [HSi.out j hltj] at htt
          generalize x.prog[j]! = y at *
          obtain ⟨y0, y1⟩ := y
          simp only at e0 e1 l6 l7 htt
          have HTT := Lib.hid htt
          have hzl : zs.length + 10 * 2 ≤ 900000 := by have := HL.out; rw [← htt, List.length_append] at this; omega
          have has : s.ownBlock ≠ some wr.heap.size := fun e => by have := (HO.out.lt _ e).2; omega
          have hXI : (wr.alloc (.cells #[.int .i64 y0, .int .i64 y1] 56)).heap[wr.heap.size]? = some (.cells #[.int .i64 y0, .int .i64 y1] 56 (0, 0)) := heap_alloc_new wr _
          have HKp := Lib.hid (fun W s' (h : Appd (wr.alloc (.cells #[.int .i64 y0, .int .i64 y1] 56)) W s s') => show W.cell? ⟨wr.heap.size, 0, none⟩ = some (.int .i64 y0) ∧ W.cell? ⟨wr.heap.size, 1, none⟩ = some (.int .i64 y1) from by
            have hr := h.row hXI has
            have hw : rowOf W wr.heap.size = some #[.int .i64 y0, .int .i64 y1] := by unfold rowOf; rw [hr]; rfl
            exact ⟨rowOf_cell hw 0, rowOf_cell hw 1⟩)
          have HOI := Lib.hid (HO.out.alloc (.cells #[.int .i64 y0, .int .i64 y1] 56))
          have HsB : Hid (w0.heap.size ≤ (wr.alloc (.cells #[.int .i64 y0, .int .i64 y1] 56)).heap.size) := by show _ ≤ _; simp; have := HBi.out.size; omega
          have hc1 := put_lit [y0] w0.heap.size s zs (wr.alloc (.cells #[.int .i64 y0, .int .i64 y1] 56)).drew (wr.heap.size + 1) 1 3 (by simp) rfl (by intro z hz; simp at hz; subst hz; exact low63 l6) (by simp; omega) HOI.out HsB.out
          have HC1 : Hid (Calls Try.prog 40 #[s, .slice (some ⟨wr.heap.size + 1, 0, none⟩) 1 1] ((wr.alloc (.cells #[.int .i64 y0, .int .i64 y1] 56)).alloc (.cells #[.int .i64 y0] 3)).drew (PutR w0.heap.size (wr.alloc (.cells #[.int .i64 y0, .int .i64 y1] 56)).drew s (zs ++ flatN [y0]))) := hc1
          have HC2 := Lib.hid (fun (W : World) (s' : Value) (h : Appd (wr.alloc (.cells #[.int .i64 y0, .int .i64 y1] 56)) W s s') (hO : OwnF w0.heap.size W s' (zs ++ bytesOf y0.toNat)) => putS_any y1 w0.heap.size s' (zs ++ bytesOf y0.toNat) W l7 (by have := low_len l6; rw [List.length_append]; omega) hO (Nat.le_trans HsB.out h.grown.size))
          rw [flat1] at HC1
          have HAI := Lib.hid (HA.out.trans (Appd.ofBelow (w1 := wr.alloc (.cells #[.int .i64 y0, .int .i64 y1] 56)) ((Below.refl wr.heap.size wr).alloc (Nat.le_refl _) _) s))
          have hA := Appd.ofDrew (wr.alloc (.cells #[.int .i64 y0, .int .i64 y1] 56)) s
          clear hc1 hcs htt hzl has hXI HRi HLi HSi HEi HT HA HO HBi
          go_upto_region 11 with (fail)
          go_region_held_law (fun w' => w'.cell? ⟨wr.heap.size, 0, none⟩ = some (.int .i64 y0) ∧ w'.cell? ⟨wr.heap.size, 1, none⟩ = some (.int .i64 y1)) (first | exact HKp.out _ _ hA | go_keep) (first
            | (go_at_call 41; (with_reducible refine Calls.mono (HC2.out _ _ hA hO6) ?_); rintro e wn ⟨v7, rfl, hO7, hA7⟩; replace hA := hA.trans hA7; clear hA7)
            | (go_at_call 40; (with_reducible refine Calls.mono HC1.out ?_); rintro e wn ⟨v6, rfl, hO6, hA6⟩; replace hA := hA.trans hA6; clear hA6))
          all_goals try simp only [List.getElem_toArray, List.getElem_cons_succ, List.getElem_cons_zero, Act.put, List.setIfInBounds_toArray, List.set_cons_zero, List.set_cons_succ]
          all_goals have HA9 := Lib.hid (HAI.out.trans hA)
          all_goals clear hA
          all_goals go_wp2_with fail
          all_goals go_roundg (m - (j + 1))
          all_goals first
            | omega
            | exact ⟨j + 1, _, _, rfl, by omega, by omega, by go_num, hO7, (by show _ = _; rw [← HTT.out]; simp only [List.append_assoc]), HA9.out⟩
        · have hlzj : ¬ (j : Int) < (m : Int) := by omega
          obtain rfl : j = m := by omega
          have htt := HT.out
          rw [HEi.out] at htt
          have HTT := Lib.hid htt
          have HA9 := Lib.hid (HAw.out.trans HA.out)
          clear HT htt HEi HRi HSi HLi
          go_wp2
          go_roundg (n - (k + 1))
          case measure => omega
          case rel => exact ⟨k + 1, _, _, rfl, by omega, by omega, by go_num, HO.out, HTT.out, HA9.out⟩
    · have hlz : ¬ (k : Int) < (n : Int) := by omega
      obtain rfl : k = n := by omega
      have htt := HT.out
      rw [HEnd.out] at htt
      have HTT := Lib.hid htt
      clear HT htt HEnd HRow HSt HLo HIn
      go_wp2
      go_returns
      exact ⟨_, ys, rfl, HO.out, HTT.out, HA.out⟩
end Go.Proofs.Ytdhmoiiagplbpaa
