/- ways in memory; the program's longer -/
import Derived.Test.YtjaahmgokiobjaaGreatG27
import Derived.Test.YtjaahmgokiobjaaGreatG28
import Derived.Test.YtjaahmgokiobjaaGreatG29
import Derived.Test.YtjaahmgokiobjaaGreatG30
import Derived.Test.YtjaahmgokiobjaaGreatG31
import Derived.Test.YtjaahmgokiobjaaGreatG33
import Derived.Test.YtjaahmgokiobjaaGreatG06
import Derived.Laws.MakeOwn
namespace Go.Proofs.YtjaahmgokiobjaaGreat
open Go.RowKit
set_option linter.unusedVariables false
set_option linter.unusedSimpArgs false
attribute [local go_sem ↓] loadHs storeH
attribute [local simp] size_setRow
attribute [local go_sem] rowAt_head rowOf_alloc_at rowOf_alloc_past rowOf_drew rowOf_drewN rowOf_setRow_same rowOf_setRow_other rowOf_setCell_same rowOf_setCell_other size_setRow setRow_drew setRow_alloc_at setRow_alloc_past one_int one_bool cell_setRow_same cell_setRow_other frozen_setRow_same frozen_setRow_other
attribute [local go_sem ↓] run_imin
attribute [local go_sem] HV.enc

/-- a way: to which operator, and its step -/
abbrev WV := Nat × HV
def WV.enc (p : WV) : List Value := .int .i64 (p.1 : Int) :: HV.enc p.2
abbrev WV.val (p : WV) : Value := .agg #[.int .i64 (p.1 : Int), .int .i64 p.2.f, .int .i64 p.2.k, .int .i64 p.2.t, .int .i64 p.2.a0, .int .i64 p.2.a1, .int .i64 p.2.a2, .int .i64 p.2.a3, .int .i64 p.2.b0, .int .i64 p.2.b1, .int .i64 p.2.b2, .int .i64 p.2.b3]
def RWy : RowKind WV where
  enc := WV.enc
  k := 12
  k0 := by decide
  len := fun _ => rfl
  one := by
    intro c u hu
    simp [WV.enc, HV.enc] at hu
    rcases hu with rfl | rfl | rfl | rfl | rfl | rfl | rfl | rfl | rfl | rfl | rfl | rfl <;> rfl
  tE := 69
  tS := 70
  zero := .agg #[.int .i64 0, .int .i64 0, .int .i64 0, .int .i64 0, .int .i64 0, .int .i64 0, .int .i64 0, .int .i64 0, .int .i64 0, .int .i64 0, .int .i64 0, .int .i64 0]
  bytes := 96
  info := by kernel_rfl
  under := Tryz.underlying70
  zlen := rfl
  byt := by decide
theorem row_elem1 {w : World} {b m : Nat} {x : HV} (h : rowOf w b = some #[.int .i64 (m : Int), .int .i64 x.f, .int .i64 x.k, .int .i64 x.t, .int .i64 x.a0, .int .i64 x.a1, .int .i64 x.a2, .int .i64 x.a3, .int .i64 x.b0, .int .i64 x.b1, .int .i64 x.b2, .int .i64 x.b3]) : elemL w ⟨b, 1, none⟩ 0 11 = some (HV.enc x) :=
  elemL_of (l := HV.enc x) (i := 0) (fun j v hj => by
    rw [Addr.add_lit, Nat.zero_add, rowOf_cell h, Nat.add_comm 1 j]
    have hj' : j < 11 := (List.getElem?_eq_some_iff.1 hj).1
    have : j = 0 ∨ j = 1 ∨ j = 2 ∨ j = 3 ∨ j = 4 ∨ j = 5 ∨ j = 6 ∨ j = 7 ∨ j = 8 ∨ j = 9 ∨ j = 10 := by omega
    rcases this with rfl | rfl | rfl | rfl | rfl | rfl | rfl | rfl | rfl | rfl | rfl <;> simpa [HV.enc] using hj)
/-- one edge's part of the longer ways -/
def edgeW (m : Nat) (ok : Bool) (y : HV) (e : GE) : List WV := if e.src.toNat = m ∧ ok = true then [(e.dst.toNat, y)] else []
theorem longer_is (g : GV) (m : Nat) (x : HV) : longerW (netE g) m x = g.edges.flatMap (edgeW m (thenOk x (stepH (levelG g m false) g.nodes[m]!.kind)) (thenV x (stepH (levelG g m false) g.nodes[m]!.kind))) := by
  unfold longerW netE
  have key : ∀ l : List GE, (l.map fun e => (⟨e.src.toNat, e.dst.toNat, stepG g e⟩ : NE)).filterMap (fun e => if e.src = m ∧ thenOk x e.s = true then some (e.dst, thenV x e.s) else none) =
      l.flatMap (edgeW m (thenOk x (stepH (levelG g m false) g.nodes[m]!.kind)) (thenV x (stepH (levelG g m false) g.nodes[m]!.kind))) := by
    intro l
    induction l with
    | nil => rfl
    | cons e l ih =>
      rw [List.map_cons, List.filterMap_cons, List.flatMap_cons, ← ih]
      by_cases h : e.src.toNat = m
      · have hs : stepG g e = stepH (levelG g m false) g.nodes[m]!.kind := by unfold stepG; rw [h]
        simp only [hs, edgeW]
        by_cases o : thenOk x (stepH (levelG g m false) g.nodes[m]!.kind) = true
        · rw [if_pos ⟨h, o⟩, if_pos ⟨h, o⟩]; rfl
        · rw [if_neg (fun q => o q.2), if_neg (fun q => o q.2)]; rfl
      · simp only [edgeW]
        rw [if_neg (fun q => h q.1), if_neg (fun q => h q.1)]; rfl
  exact key g.edges
theorem flatMap_take {α β : Type} [Inhabited α] (f : α → List β) (l : List α) (k : Nat) (hk : k < l.length) : (l.take (k + 1)).flatMap f = (l.take k).flatMap f ++ f l[k]! := by
  rw [List.take_succ_eq_append_getElem hk, List.flatMap_append, getElem!_pos l k hk]
  simp
theorem edgeW_len (m : Nat) (ok : Bool) (y : HV) (l : List GE) : (l.flatMap (edgeW m ok y)).length ≤ l.length := by
  induction l with
  | nil => simp
  | cons e l ih =>
    rw [List.flatMap_cons, List.length_append, List.length_cons]
    have : (edgeW m ok y e).length ≤ 1 := by unfold edgeW; split <;> simp
    omega
set_option maxRecDepth 100000 in
set_option maxHeartbeats 16000000 in
theorem plonger_any (g : GV) (v : Value) (m : Nat) (x : HV) (w : World) (h : IsG w v g) (M : May g) (T : Tree g) (hm : m < g.nodes.length) :
    Calls Tryz.prog 36 #[v, WV.val (m, x)] w (RWy.Made (longerW (netE g) m x) w) := by
  have HE : Hid (∀ W, Below w.heap.size w W → Calls Tryz.prog 67 #[v, .int .i64 (m : Int)] W (Ret (stepH (levelG g m false) g.nodes[m]!.kind).val W)) := fun W hW => pedge_any g v m W (h.below hW) M T hm
  rw [longer_is]
  have hen : g.edges.length ≤ 64 := M.edges
  have hends : ∀ i, i < g.edges.length → 0 ≤ g.edges[i]!.src ∧ 0 ≤ g.edges[i]!.dst := fun i hi => ⟨(M.ends i hi).1, (M.ends i hi).2.2.1⟩
  obtain ⟨p1, c1, p2, c2, p3, c3, p4, c4, rfl, G⟩ := h.go
  have HG := Lib.hid G.edg
  clear h G M T hm
  generalize stepH (levelG g m false) g.nodes[m]!.kind = S at *
  have HT := Lib.hid (fun W => jthen_any x S W)
  generalize hy : thenV x S = y at *
  generalize hok : thenOk x S = ok at *
  have HEn := Lib.hid hends
  clear hends hy hok
  generalize g.parent.length = n1 at *
  generalize g.bound.length = n2 at *
  generalize g.nodes.length = n3 at *
  have HF := Lib.hid (fun k hk => flatMap_take (edgeW m ok y) g.edges k hk)
  have HLn := Lib.hid (fun k => edgeW_len m ok y (g.edges.take k))
  generalize hn4 : g.edges.length = n4 at *
  have HN4 := Lib.hid hn4
  clear hn4
  go_enter Tryz.func36, Tryz.ntmps36
  go_wp2_with fail
  refine gen_world (fun W2 => Below w.heap.size w W2 ∧ rowOf W2 w.heap.size = some #[.slice p1 n1 c1, .slice p2 n2 c2, .slice p3 n3 c3, .slice p4 n4 c4] ∧ rowOf W2 (w.heap.size + 1) = some #[.int .i64 (m : Int), .int .i64 x.f, .int .i64 x.k, .int .i64 x.t, .int .i64 x.a0, .int .i64 x.a1, .int .i64 x.a2, .int .i64 x.a3, .int .i64 x.b0, .int .i64 x.b1, .int .i64 x.b2, .int .i64 x.b3]) ⟨by go_grown, row_old (row_new rfl), row_new (by simp)⟩ ?_
  rintro w2 ⟨hB2, hg2, hw2⟩
  have HB2 := Lib.hid hB2
  have HG2 := Lib.hid hg2
  have HW2 := Lib.hid hw2
  clear hB2 hg2 hw2
  refine wp_region_float (ka := 10) (ks := 11) (d := 5) (oa := _) (os := _) (ta := []) (ts := [18]) (pv := fun b => .pointer (some ⟨b, 0, none⟩)) (us := undef) (B1 := fun b W => W.heap[b]? = some (.cells (hvRow HV.zero) 55 (0, 0))) (B2 := fun b W => W.heap[b]? = some (.cells (hvRow y) 55 (0, 0))) (fin := ?fin) (m := false) (by kernel_rfl) rfl rfl rfl rfl rfl (by kernel_rfl) (by kernel_rfl) (by simp) ?st1 ?st2 ?ha ?hs ?h ?hQ
  case h =>
    intro V hV
    simp only [flo, List.set_cons_succ, List.set_cons_zero]
    have hBV := bstep HB2.out hV.1 HB2.out.size
    have hgV := rowOf_below HG2.out hV.1 (rowOf_lt HG2.out)
    have hwV := rowOf_below HW2.out hV.1 (rowOf_lt HW2.out)
    have x0 := fun p : Bd false V => bd_cell (rowOf_cell hgV 0 : _ = some (.slice p1 n1 c1)) p
    have x1 := fun p : Bd false V => bd_cell (rowOf_cell hgV 1 : _ = some (.slice p2 n2 c2)) p
    have x2 := fun p : Bd false V => bd_cell (rowOf_cell hgV 2 : _ = some (.slice p3 n3 c3)) p
    have x3 := fun p : Bd false V => bd_cell (rowOf_cell hgV 3 : _ = some (.slice p4 n4 c4)) p
    have x4 := fun p : Bd false V => bd_cell (rowOf_cell hwV 0 : _ = some (.int .i64 (m : Int))) p
    have z1 := fun p : Bd false V => bd_cell (rowOf_cell hwV 1 : _ = some (.int .i64 x.f)) p
    have z2 := fun p : Bd false V => bd_cell (rowOf_cell hwV 2 : _ = some (.int .i64 x.k)) p
    have z3 := fun p : Bd false V => bd_cell (rowOf_cell hwV 3 : _ = some (.int .i64 x.t)) p
    have z4 := fun p : Bd false V => bd_cell (rowOf_cell hwV 4 : _ = some (.int .i64 x.a0)) p
    have z5 := fun p : Bd false V => bd_cell (rowOf_cell hwV 5 : _ = some (.int .i64 x.a1)) p
    have z6 := fun p : Bd false V => bd_cell (rowOf_cell hwV 6 : _ = some (.int .i64 x.a2)) p
    have z7 := fun p : Bd false V => bd_cell (rowOf_cell hwV 7 : _ = some (.int .i64 x.a3)) p
    have z8 := fun p : Bd false V => bd_cell (rowOf_cell hwV 8 : _ = some (.int .i64 x.b0)) p
    have z9 := fun p : Bd false V => bd_cell (rowOf_cell hwV 9 : _ = some (.int .i64 x.b1)) p
    have z10 := fun p : Bd false V => bd_cell (rowOf_cell hwV 10 : _ = some (.int .i64 x.b2)) p
    have z11 := fun p : Bd false V => bd_cell (rowOf_cell hwV 11 : _ = some (.int .i64 x.b3)) p
    have K1 : Hid (∀ p : Bd false V, Calls Tryz.prog 67 #[.agg #[.slice p1 n1 c1, .slice p2 n2 c2, .slice p3 n3 c3, .slice p4 n4 c4], .int .i64 (m : Int)] p.w (Ret S.val p.w)) := fun p => HE.out p.w (bstep hBV p.h.1 hBV.size)
    have K2 : Hid (∀ p : Bd false V, Calls Tryz.prog 66 #[x.val, S.val] p.w (Ret (.tuple #[y.val, .bool ok]) p.w)) := fun p => HT.out p.w
    repeat (first | go_big_quiet_step (first | (with_reducible exact Calls.bd (K1.out _)) | (with_reducible exact Calls.bd (K2.out _))) | quiet_step (first | (with_reducible exact Calls.bd (K1.out _)) | (with_reducible exact Calls.bd (K2.out _))))
    refine wpQuiet_nil ?_
    rfl
  case st1 => exact fun b W W' h hb => (hb.block b (Array.getElem?_eq_some_iff.1 h).1).trans h
  case st2 => exact fun b W W' h hb => (hb.block b (Array.getElem?_eq_some_iff.1 h).1).trans h
  case ha =>
    intro ρ W _
    refine ⟨W.alloc (.cells (hvRow HV.zero) 55), ?_, ⟨(Below.refl _ _).alloc (Nat.le_refl _) _, fun _ => Nat.le_refl _⟩, heap_alloc_new W _⟩
    simp [execOp, go_sem]
    rfl
  case hs =>
    intro c W b K hb hB h1 hd ht hK
    have h18 := ht 18 (by simp)
    have hr : rowOf W b = some (hvRow HV.zero) := by unfold rowOf; rw [h1]; simp
    have h18' : c.eval (.tmp 18) = y.val := h18
    rw [storeH, hd, h18']
    simp only [rowAt_head, hr]
    rw [if_pos ⟨rfl, rfl, by decide, rfl⟩]
    exact hK _ ⟨below_setRow hB.1 _ _ hb, fun e => by cases e⟩ (RowKind.heap_set h1)
  case hQ =>
    intro b W hb hB hh
    simp only [Act.put, List.setIfInBounds_toArray, List.set_cons_succ, List.set_cons_zero]
    have HBW := Lib.hid (bstep HB2.out hB.1 HB2.out.size)
    have HGW := Lib.hid (rowOf_below HG2.out hB.1 (rowOf_lt HG2.out))
    have HWW := Lib.hid (rowOf_below HW2.out hB.1 (rowOf_lt HW2.out))
    have HHW : Hid (rowOf W b = some (hvRow y)) := by rw [Hid]; unfold rowOf; rw [hh]; simp
    clear hB hh HB2 HG2 HW2 HT HE hb
    cases hok : ok
    · have he : g.edges.flatMap (edgeW m false y) = [] := by
        rw [List.flatMap_eq_nil_iff]
        intro e _
        unfold edgeW
        rw [if_neg (fun q => by cases q.2)]
      subst hok
      have HE0 := Lib.hid he
      clear he
      go_wp2
      go_returns
      exact ⟨_, rfl, by rw [HE0.out]; exact RowKind.Own.nil _ _ _, HBW.out⟩
    · subst hok
      have g_3 : W.cell? ⟨w.heap.size, 3, none⟩ = some (.slice p4 n4 c4) := rowOf_cell HGW.out 3
      go_wp2
      go_loopg [25, 7] n4 (fun gg i v wr => ∃ k : Nat, k ≤ n4 ∧ n4 - k ≤ gg ∧ i = .int .i64 (k : Int) ∧ Hid (Below W.heap.size W wr) ∧ Hid (RWy.Own W.heap.size wr v ((g.edges.take k).flatMap (edgeW m true y))))
      case atStart => exact ⟨0, Nat.zero_le _, by omega, rfl, Below.refl _ _, RowKind.Own.nil _ _ _⟩
      case round =>
        obtain ⟨k, hkn, hg, rfl, HB, HO⟩ := hrel
        by_cases hlt : k < n4
        · have hlz : (k : Int) < (n4 : Int) := by omega
          obtain ⟨b4, off4, rfl, hc⟩ := HG.out k hlt
          have HBr := Lib.hid (bstep HBW.out HB.out HBW.out.size)
          obtain ⟨e0, e1, e2, e3⟩ := hc wr HBr.out
          have hends := HEn.out k hlt
          have HFk := Lib.hid (HF.out k (by first | exact hlt | (rw [HN4.out]; exact hlt)))
          have HLk := Lib.hid (HLn.out k)
          have hx : edgeW m true y g.edges[k]! = if (g.edges[k]!).src.toNat = m then [((g.edges[k]!).dst.toNat, y)] else [] := by unfold edgeW; simp
          obtain ⟨sn, hsn⟩ : ∃ q : Nat, (g.edges[k]!).src = (q : Int) := ⟨(g.edges[k]!).src.toNat, by omega⟩
          obtain ⟨dn, hdn⟩ : ∃ q : Nat, (g.edges[k]!).dst = (q : Int) := ⟨(g.edges[k]!).dst.toNat, by omega⟩
          rw [hsn] at e0
          rw [hdn] at e1
          rw [hsn, hdn, Int.toNat_natCast, Int.toNat_natCast] at hx
          have HX := Lib.hid hx
          generalize (g.edges[k]!).port = pt at *
          generalize (g.edges[k]!).ex = ex at *
          have hb4 : b4 < wr.heap.size := World.block_lt_of_cell? _ _ e0
          have D4 := Nat.ne_of_lt hb4
          clear hends hsn hdn hx hc
          go_upto_region 8 with (fail)
          refine gen_world (fun W3 => Below wr.heap.size wr W3 ∧ W3.cell? ⟨wr.heap.size, 0, none⟩ = some (.int .i64 (sn : Int)) ∧ W3.cell? ⟨wr.heap.size, 1, none⟩ = some (.int .i64 (dn : Int))) ⟨by go_grown, by go_cell, by go_cell⟩ ?_
          rintro w3 ⟨hB3, b_0, b_1⟩
          have HB3 := Lib.hid (bstep HB.out hB3 HB.out.size)
          have HO3 := Lib.hid (HO.out.below hB3)
          have w_0 : w3.cell? ⟨w.heap.size + 1, 0, none⟩ = some (.int .i64 (m : Int)) := rowOf_cell (rowOf_below HWW.out HB3.out (rowOf_lt HWW.out)) 0
          have E5 := row_elem (rowOf_below HHW.out HB3.out (rowOf_lt HHW.out))
          clear e0 e1 e2 e3 hB3 HB HO hb4 D4
          by_cases hs : sn = m
          · have hsb : ((sn : Int) == (m : Int)) = true := by simp [hs]
            have HV : Hid ((g.edges.take (k + 1)).flatMap (edgeW m true y) = (g.edges.take k).flatMap (edgeW m true y) ++ [(dn, y)]) := by
              rw [Hid, HFk.out, HX.out, if_pos hs]
            have hlk : ((g.edges.take k).flatMap (edgeW m true y)).length ≤ 900000 := by
              have := HLk.out
              rw [List.length_take] at this
              omega
            go_wp2_with (at_builtin; refine RowKind.Own.push (R := RWy) (y := (dn, y)) HO3.out HB3.out HB3.out.size rfl _ _ rfl rfl _ rfl hlk (Nat.le_refl _) ?_; intro v4 w4 hO4 hB4 _)
            have HB4 := Lib.hid hB4
            have HO4 : Hid (RWy.Own W.heap.size w4 v4 ((g.edges.take (k + 1)).flatMap (edgeW m true y))) := by rw [Hid, HV.out]; exact hO4
            clear hO4 hB4 HO3 HB3 w_0 E5 b_0 b_1 HV
            go_wp2
            go_roundg (n4 - (k + 1))
            case measure => omega
            case rel => exact ⟨k + 1, by omega, by omega, by go_num, HB4.out, HO4.out⟩
          · have hsb : ((sn : Int) == (m : Int)) = false := by simp; omega
            have HV : Hid ((g.edges.take (k + 1)).flatMap (edgeW m true y) = (g.edges.take k).flatMap (edgeW m true y)) := by
              rw [Hid, HFk.out, HX.out, if_neg hs, List.append_nil]
            go_wp2
            go_roundg (n4 - (k + 1))
            case measure => omega
            case rel => exact ⟨k + 1, by omega, by omega, by go_num, HB3.out, by rw [HV.out]; exact HO3.out⟩
        · have hlz : ¬ (k : Int) < (n4 : Int) := by omega
          obtain rfl : k = n4 := by omega
          have HA : Hid (g.edges.take k = g.edges) := by rw [Hid, ← HN4.out, List.take_length]
          go_wp2
          go_returns
          refine ⟨_, rfl, ?_, bstep HBW.out HB.out HBW.out.size⟩
          have o := HO.out
          rw [HA.out] at o
          exact o.mono HBW.out.size
end Go.Proofs.YtjaahmgokiobjaaGreat
/- a row that is made at its full length and then filled -/
namespace Go.Proofs.YtjaahmgokiobjaaGreat
open Go.RowKit
set_option linter.unusedVariables false
set_option linter.unusedSimpArgs false

theorem RowKind.Own.of_rowIs {α : Type} {R : RowKind α} {B g n : Nat} {w : World} {f : Nat → Value} {xs : List α} (h : w.rowIs g R.tE (n * R.k) f) (hB : B ≤ g) (hn : xs.length = n) (hm : n ≤ 1000000)
    (hf : ∀ i, i < n * R.k → (R.cells xs)[i]? = some (f i)) : R.Own B w (.slice (some ⟨g, 0, none⟩) n n) xs := by
  obtain ⟨c, hb, hs, hc⟩ := h
  subst hn
  refine ⟨R.cells_len xs, .inr ⟨g, xs.length, c, rfl, hB, hb, Nat.le_refl _, by unfold maxLen; omega, hs, ?_⟩⟩
  refine List.ext_getElem? fun i => ?_
  rw [List.getElem?_take]
  split
  · rename_i hi
    rw [hf i hi, ← hc i hi]
    simp
  · rename_i hi
    rw [List.getElem?_eq_none (by rw [R.cells_len]; omega)]
theorem run_make_rows {P : Program} {t e : TypeId} {z : Value} {size bytes : Nat} (ht : P.underlying t = some (.slice e)) (hinfo : (P.info? e).map (fun i => (i.zero, i.size, i.bytes)) = some (some z, size, bytes)) (hb : bytes ≤ 1000)
    (n : Nat) (hn : n ≤ 1000000) (w : World) :
    (Instr.makeSlice t (.int .i64 (n : Int)) (.int .i64 (n : Int))).run P w = .ok (.slice (some ⟨w.heap.size, 0, none⟩) n n) (w.alloc (.cells (madeCells z.cells (n * size)) e)) := by
  obtain ⟨i, hi, hz0, hz1, hz2⟩ := info_parts hinfo
  subst hz1
  have hbb : i.bytes * n ≤ 1000 * 1000000 := Nat.mul_le_mul (by omega) hn
  have hr := run_make (P := P) w t e i z ht hi hz0 .i64 .i64 n n (by omega) (Int.le_refl _) (by rw [← Int.natCast_mul]; omega) (by omega)
  simpa using hr
theorem rowIs_made {w : World} (z : Array Value) (n : Nat) (t : TypeId) : ∃ f, (w.alloc (.cells (madeCells z n) t)).rowIs w.heap.size t n f := by
  refine ⟨fun i => (madeCells z n)[i]!, ?_⟩
  have h := World.rowIs_alloc w (madeCells z n) t (fun i => (madeCells z n)[i]!) (fun i hi => by rw [getElem!_pos (madeCells z n) i hi]; exact Array.getElem?_eq_getElem hi)
  rw [size_madeCells] at h
  exact h
end Go.Proofs.YtjaahmgokiobjaaGreat
