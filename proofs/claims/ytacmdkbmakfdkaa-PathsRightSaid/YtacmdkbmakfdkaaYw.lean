/- the document's Row of the table: the walk -/
import Derived.Test.YtacmdkbmakfdkaaG14
import Derived.Test.YtacmdkbmakfdkaaG36
import Derived.Test.YtacmdkbmakfdkaaPq
import Derived.Test.YtacmdkbmakfdkaaG30
import Derived.Test.YtacmdkbmakfdkaaG32
import Derived.Test.YtacmdkbmakfdkaaG33
import Derived.Test.YtacmdkbmakfdkaaG31
import Derived.Deep.RegionHeldLaw
import Derived.Deep.RegionLaw
import Derived.Deep.CutRange
namespace Go.Proofs.Ytacmdkbmakfdkaa
open Go.RowKit
set_option linter.unusedVariables false
set_option linter.unusedSimpArgs false
attribute [local go_sem ↓] loadHs storeH
attribute [local simp] size_setRow
attribute [local go_sem] rowAt_head rowOf_alloc_at rowOf_alloc_past rowOf_drew rowOf_drewN rowOf_setRow_same rowOf_setRow_other rowOf_setCell_same rowOf_setCell_other size_setRow setRow_drew setRow_alloc_at setRow_alloc_past one_int one_bool cell_setRow_same cell_setRow_other frozen_setRow_same frozen_setRow_other
attribute [local go_sem ↓] run_imin
attribute [local go_sem] HV.enc elemL_drew elemL_alloc
def RowR (g : GV) (n : Nat) (w : World) (e : Ending) (w' : World) : Prop :=
  ∃ v rows, e = .returned v ∧ IsHH w' v rows ∧ Below w.heap.size w w' ∧ rows.length = g.nodes.length ∧ (∀ m, m < g.nodes.length → LeastOf (Way (netE g) n (sameG g n) m) rows[m]!) ∧ ∀ m : Nat, List.length rows[m]! ≤ 7140250000
theorem all_range {k : Nat} (f : Nat → Bool) : (List.range (k + 1)).all f = ((List.range k).all f && f k) := by
  rw [List.range_succ, List.all_append]
  simp
theorem own_ge {B : Nat} {w : World} {v : Value} {xs : List HV} (h : RHp.Own B w v xs) {k : Nat} (hk : v.ownBlock = some k) : B ≤ k := (h.lt k hk).1
theorem leastH_len (l : List HV) : (leastH l).length ≤ l.length := by
  unfold leastH leastK
  rw [List.length_map]
  exact Nat.le_trans (List.length_filter_le _ _) (by rw [List.length_range]; exact Nat.le_refl _)
set_option maxRecDepth 100000 in
set_option maxHeartbeats 32000000 in
theorem rrow_any (g : GV) (v : Value) (n : Nat) (w : World) (h : IsG w v g) (R : Runs g) (hn : n < g.nodes.length) :
    Calls Try.prog 9 #[v, .int .i64 (n : Int)] w (RowR g n w) := by
  have hp : g.parent.length ≤ 900000 := Nat.le_trans R.parent (by decide)
  have HLv := Lib.hid (fun W (hW : Below w.heap.size w W) => rlevel_any g v n false W (h.below hW) hp hn (R.scope n hn))
  have HSt : Hid (∀ i, i < g.edges.length → ∀ W, Below w.heap.size w W → Calls Try.prog 15 #[v, (g.edges[i]!).val] W (Ret (stepG g g.edges[i]!).val W)) := fun i hi W hW => by
    have e := R.ends i hi
    exact rstep_any g v _ W (h.below hW) hp e.1 e.2.1 (R.scope _ e.2.1) (R.depth _ e.2.1)
  have HRun := Lib.hid R
  have hN : g.nodes.length ≤ 32 := R.nodes
  have hE : g.edges.length ≤ 64 := R.edges
  have HStart := Lib.hid (Rounds.start (E := netE g) (D := depthG g) n (sameG g n) hn (sameG_right R hn))
  have HFew : Hid (∀ (r : Nat) (rows : List (List HV)), r ≤ 129 → Rounds (netE g) (depthG g) g.nodes.length n (sameG g n) r rows → ∀ m : Nat, List.length rows[m]! ≤ 7140250000) := fun r rows hr q m => q.few R.fine (sameG_right R hn) (sameG_gives g n) (sameG_zero g n) hr m
  have HNext : Hid (∀ (r : Nat) (rows : List (List HV)), Rounds (netE g) (depthG g) g.nodes.length n (sameG g n) r rows → Rounds (netE g) (depthG g) g.nodes.length n (sameG g n) (r + 1) (stepRow (netE g) rows)) := fun r rows q => q.next R.fine n _ hn (sameG_right R hn) (sameG_gives g n)
  have HDone : Hid (∀ (r : Nat) (rows : List (List HV)), Rounds (netE g) (depthG g) g.nodes.length n (sameG g n) r rows → sameRow (stepRow (netE g) rows) rows = true → ∀ m, m < g.nodes.length → LeastOf (Way (netE g) n (sameG g n) m) (stepRow (netE g) rows)[m]!) := fun r rows q hs => q.done R.fine n _ hn (sameG_right R hn) (sameG_gives g n) hs
  have HLate : Hid (∀ (r : Nat) (rows : List (List HV)), 4 * g.nodes.length ≤ r → Rounds (netE g) (depthG g) g.nodes.length n (sameG g n) r rows → sameRow (stepRow (netE g) rows) rows = true) := fun r rows hr q => q.late R.fine n _ hn (sameG_right R hn) (sameG_gives g n) (sameG_zero g n) (by have := R.nodes; omega) hr
  obtain ⟨p1, c1, p2, c2, p3, c3, p4, c4, rfl, G⟩ := h.go
  have HG := Lib.hid G
  clear h G R
  have hnl : (n : Int) < (g.nodes.length : Int) := by omega
  have hmk := fun W => make_hh g.nodes.length (by omega) W
  have HX0 : Hid (rowOf (w.alloc (.cells #[.slice p1 g.parent.length c1, .slice p2 g.bound.length c2, .slice p3 g.nodes.length c3, .slice p4 g.edges.length c4] 26)) w.heap.size = some #[.slice p1 g.parent.length c1, .slice p2 g.bound.length c2, .slice p3 g.nodes.length c3, .slice p4 g.edges.length c4]) := row_new rfl
  have HB0 := Lib.hid ((Below.refl w.heap.size w).alloc (Nat.le_refl _) (.cells #[.slice p1 g.parent.length c1, .slice p2 g.bound.length c2, .slice p3 g.nodes.length c3, .slice p4 g.edges.length c4] 26))
  generalize g.parent.length = n1 at *
  generalize g.bound.length = n2 at *
  generalize hn3 : g.nodes.length = n3 at *
  generalize hn4 : g.edges.length = n4 at *
  have HN3 := Lib.hid hn3; have HN4 := Lib.hid hn4
  clear hn3 hn4
  go_enter Try.func9, Try.ntmps9
  go_wp2_with fail
  refine (HLv.out _ (HB0.out.alloc (by simp) _)).mono ?_
  rintro e w2 ⟨rfl, hb⟩
  have HX2 := Lib.hid (rowOf_below (row_old HX0.out) hb (rowOf_lt (row_old HX0.out)))
  have HB2 := Lib.hid ((HB0.out.alloc (by simp) _).trans (hb.mono (by simp; omega)))
  have HO2 : Hid (OHH (w.heap.size + 1) w2 (w.heap.size + 1) (List.replicate n3 ⟨none, 0, 0⟩) (List.replicate n3 [])) := by
    have q := (OHH.made (w.alloc (.cells #[.slice p1 n1 c1, .slice p2 n2 c2, .slice p3 n3 c3, .slice p4 n4 c4] 26)) n3).below hb
    rw [World.size_alloc] at q
    exact q
  have x_c : w2.cell? ⟨w.heap.size + 1, n, none⟩ = some (.slice none 0 0) := by
    rw [HO2.out.cell n (by rw [List.length_replicate]; exact hn), getElem!_pos _ n (by rw [List.length_replicate]; exact hn), List.getElem_replicate]
  have x_f := HO2.out.frozen n
  have x_l := HO2.out.lt
  clear HLv hb HX0 HB0
  go_wp2_with fail
  rw [setCell_alloc _ _ _ _ x_l]
  refine gen_world (fun W2 => Hid (Below w.heap.size w W2) ∧ Hid (rowOf W2 w.heap.size = some #[.slice p1 n1 c1, .slice p2 n2 c2, .slice p3 n3 c3, .slice p4 n4 c4]) ∧ Hid (IsHH W2 (.slice (some ⟨w.heap.size + 1, 0, none⟩) n3 n3) ((List.replicate n3 []).set n [sameG g n]))) ⟨?_, ?_, ?_⟩ ?_
  · exact Lib.hid ((HB2.out.alloc HB2.out.size _).setCell (by show w.heap.size ≤ w.heap.size + 1; omega) _)
  · exact Lib.hid (row_cell_other (row_old HX2.out) (by omega))
  · have hl := RHp_lit w2 (sameG g n)
    have q := HO2.out.put (W' := w2.alloc (.cells (hvRow (sameG g n)) 46)) (Nat.le_of_lt x_l) (m := n) (by rw [List.length_replicate]; exact hn) (s := ⟨some ⟨w2.heap.size, 0, none⟩, 1, 1⟩) (ys := [sameG g n]) (by simp) (fun l hl _ => Below.heap_alloc w2 _ l hl) (hl.mono (Nat.le_of_lt x_l)) (.inr fun k hk => by
      have : w2.heap.size = k := Option.some.inj hk
      omega)
    exact Lib.hid (q.is (by rw [List.length_set, List.length_replicate]))
  clear HX2 HB2 HO2 x_c x_f x_l hmk
  rintro w3 ⟨HB3, HX3, HI3⟩
  have hmk := fun W => make_hh n3 (by omega) W
  have HNz : Hid (n < n3) := hn
  go_loopg [5] (4 * n3 + 1) (fun gg rv wr => ∃ (r : Nat) (rows : List (List HV)), r ≤ 4 * n3 ∧ 4 * n3 + 1 - r ≤ gg ∧ Hid (IsHH wr rv rows) ∧ Hid (Rounds (netE g) (depthG g) n3 n (sameG g n) r rows) ∧ Hid (Below w.heap.size w wr) ∧ Hid (rowOf wr w.heap.size = some #[.slice p1 n1 c1, .slice p2 n2 c2, .slice p3 n3 c3, .slice p4 n4 c4]))
  case atStart => exact ⟨0, _, Nat.zero_le _, by omega, HI3.out, HStart.out, HB3.out, HX3.out⟩
  case round =>
    clear HI3 HStart HB3 HX3 hn
    obtain ⟨r, rows, hr, hgg, HI, HRd, HB, HX⟩ := hrel
    obtain ⟨p5, c5, rfl, ho⟩ := HI.out.opened
    have hrl : rows.length = n3 := HRd.out.len
    rw [hrl] at ho
    have HRw := Lib.hid ho
    have HRl := Lib.hid hrl
    rw [hrl]
    clear ho hrl HI
    obtain ⟨wo, rfl⟩ : ∃ wo : World, wo = wr := ⟨_, rfl⟩
    have d2 : wo.cell? ⟨w.heap.size, 2, none⟩ = some (.slice p3 n3 c3) := rowOf_cell HX.out 2
    go_wp2_with fail
    refine gen_world (fun W2 => Hid (OHH wo.heap.size W2 wo.heap.size (List.replicate n3 ⟨none, 0, 0⟩) (List.replicate n3 [])) ∧ Hid (Below wo.heap.size wo W2)) ⟨Lib.hid (OHH.made wo n3), Lib.hid ((Below.refl _ _).alloc (Nat.le_refl _) _)⟩ ?_
    clear d2
    rintro w4 ⟨HO4, HB4⟩
    go_loopg [8] n3 (fun gg i wr => ∃ (k : Nat) (svs : List SV) (nx : List (List HV)), k ≤ n3 ∧ n3 - k ≤ gg ∧ i = .int .i64 (k : Int) ∧ Hid (OHH wo.heap.size wr wo.heap.size svs nx) ∧ Hid (svs.length = n3 ∧ nx.length = n3 ∧ ∀ m, m < n3 → nx[m]! = if m < k then rows[m]! else []) ∧ Hid (Below wo.heap.size wo wr))
    case atStart => exact ⟨0, _, _, Nat.zero_le _, by omega, rfl, HO4.out, ⟨by rw [List.length_replicate], by rw [List.length_replicate], fun m hm => by rw [if_neg (Nat.not_lt_zero m), getElem!_pos _ m (by rw [List.length_replicate]; exact hm), List.getElem_replicate]⟩, HB4.out⟩
    case round =>
      clear HO4 HB4
      obtain ⟨k, svs, nx, hk, hg2, rfl, HO, HQ, HBo⟩ := hrel
      by_cases hlt : k < n3
      · have hlz : (k : Int) < (n3 : Int) := by omega
        obtain ⟨b, off, q, d, rfl, his, hcl⟩ := HRw.out k hlt
        have hks : k < svs.length := by rw [HQ.out.1]; exact hlt
        have hx := HO.out.cell k hks
        have hown := HO.out.own k hks
        have hgt := HO.out.get k hks
        have hnk := HQ.out.2.2 k hlt
        rw [if_neg (by omega)] at hnk
        rw [hnk] at hown hgt
        have hbw : b < wo.heap.size := World.block_lt_of_cell? _ _ (hcl wo (Below.refl _ _))
        have hy := hcl wr HBo.out
        have hsz : wo.heap.size ≤ wr.heap.size := HBo.out.size
        have HApp := Lib.hid (fun v5 w5 ys (ho : RHp.Own wo.heap.size w5 v5 ys) (hg : wr.drew.grownBy w5 svs[k]!.val.ownBlock) (hs : StaysOrNew wr.drew svs[k]!.val v5) => HO.out.drew.app hsz hks hg ho hs)
        have HIs := Lib.hid (his.below HBo.out)
        have hfew := HFew.out r rows (by omega) HRd.out k
        have HSet := Lib.hid (fun (sv : SV) (ys : List HV) => (⟨by rw [List.length_set]; exact HQ.out.1, by rw [List.length_set]; exact HQ.out.2.1, fun m hm => by
          rw [set_get _ _ _ _ (by rw [HQ.out.2.1]; exact hlt)]
          by_cases e : k = m
          · subst e; rw [if_pos rfl, if_pos (Nat.lt_succ_self k)]
          · rw [if_neg e, HQ.out.2.2 m hm]
            by_cases e2 : m < k
            · rw [if_pos e2, if_pos (by omega)]
            · rw [if_neg e2, if_neg (by omega)]⟩ : (svs.set k sv).length = n3 ∧ (nx.set k rows[k]!).length = n3 ∧ ∀ m, m < n3 → (nx.set k rows[k]!)[m]! = if m < k + 1 then rows[m]! else []))
        generalize hsv : svs[k]! = s at *
        obtain ⟨pn, nn, cn⟩ := s
        simp only at hgt
        have hgt0 : nn = 0 := hgt
        subst hgt0
        have HOwn := Lib.hid hown
        have HLen : Hid ((([] : List HV).length + List.length rows[k]!) * RHp.bytes ≤ 140737488355328) := by show (0 + _) * 88 ≤ _; omega
        have HSz : Hid (wo.heap.size ≤ wr.drew.heap.size) := hsz
        have HIsD := Lib.hid (HIs.out.below (Below.refl _ _).drew)
        have HBw := Lib.hid hbw
        have HY := Lib.hid hy
        have HKeep : Hid (∀ v5 w5 ys', OGrown wo.heap.size wr.drew w5 wo.heap.size k svs nx v5 ys' → w5.cell? ⟨wo.heap.size, k, none⟩ = some (.slice pn 0 cn) ∧ w5.cell? ⟨b, off + k, none⟩ = some (.slice q (List.length rows[k]!) d) ∧ w5.frozen? ⟨wo.heap.size, k, none⟩ = false) := fun v5 w5 ys' o => ⟨by have := o.cell; rw [hsv] at this; exact this, o.old _ _ _ HBw.out HY.out, o.frozen⟩
        clear hsv hgt hown hnk hsz hfew his hcl hks hbw HIs
        generalize rows[k]! = ys at *
        go_wp2_with fail
        go_region_law (first | (refine RowKind.Own.appendAnyRL (R := RHp) (by decide) rfl _ _ rfl HOwn.out rfl rfl HIsD.out HLen.out HSz.out ?_; intro v5 w5 hO5 hg5 hs5; have hA := HApp.out v5 w5 _ hO5 hg5 hs5; obtain ⟨a1, a3, a2⟩ := HKeep.out _ _ _ hA; have hbl := hA.below; obtain ⟨⟨q5, n5, d5⟩, hv5, hN⟩ := hA.new; subst hv5; have HN := Lib.hid hN; have HBl := Lib.hid hbl; clear hA hO5 hg5 hs5 hN hbl))
        all_goals
          try simp only [List.getElem_toArray, List.getElem_cons_succ, List.getElem_cons_zero, Act.put, List.setIfInBounds_toArray, List.set_cons_zero, List.set_cons_succ]
          go_wp2_with fail
          go_roundg (n3 - (k + 1))
          case measure => omega
          case rel => exact ⟨k + 1, svs.set k ⟨q5, n5, d5⟩, nx.set k ys, by omega, by omega, by go_num, HN.out, HSet.out ⟨q5, n5, d5⟩ ys, HBo.out.drew.trans HBl.out⟩
      · have hlz : ¬ (k : Int) < (n3 : Int) := by omega
        obtain rfl : n3 = k := by omega
        have hnx : nx = rows := by
          refine List.ext_getElem (by rw [HQ.out.2.1, HRl.out]) fun m h1 h2 => ?_
          have hm : m < n3 := by rw [HQ.out.2.1] at h1; exact h1
          have := HQ.out.2.2 m hm
          rw [if_pos hm, getElem!_pos nx m h1, getElem!_pos rows m h2] at this
          exact this
        subst hnx
        have HSl : Hid (svs.length = n3) := HQ.out.1
        clear hlt hlz HQ
        have HXo : Hid (∀ W, Below wo.heap.size wo W → rowOf W w.heap.size = some #[.slice p1 n1 c1, .slice p2 n2 c2, .slice p3 n3 c3, .slice p4 n4 c4]) := fun W hW => rowOf_below HX.out hW (rowOf_lt HX.out)
        have HExt := Lib.hid (fun (j : Nat) (hj : j < (netE g).length) => ext_take nx nx (netE g) j hj)
        have HEl : Hid ((netE g).length = n4) := by show (netE g).length = n4; unfold netE; rw [List.length_map]; exact HN4.out
        go_wp2_with fail
        go_loopg [9] n4 (fun gg i wr => ∃ (j : Nat) (svs : List SV), j ≤ n4 ∧ n4 - j ≤ gg ∧ i = .int .i64 (j : Int) ∧ Hid (OHH wo.heap.size wr wo.heap.size svs (ext nx nx ((netE g).take j))) ∧ Hid (svs.length = n3) ∧ Hid (Below wo.heap.size wo wr))
        case atStart => exact ⟨0, svs, Nat.zero_le _, by omega, rfl, HO.out, HSl.out, HBo.out⟩
        case round =>
          clear HO HSl HBo
          obtain ⟨j, svs, hj, hg3, rfl, HO, HSl, HBo⟩ := hrel
          have d3 : wr.cell? ⟨w.heap.size, 3, none⟩ = some (.slice p4 n4 c4) := rowOf_cell (HXo.out wr HBo.out) 3
          by_cases hjl : j < n4
          · have hjz : (j : Int) < (n4 : Int) := by omega
            have hje : j < g.edges.length := by rw [HN4.out]; exact hjl
            obtain ⟨b4, off4, rfl, hc4⟩ := HG.out.edg j hje
            obtain ⟨e0, e1, e2, e3⟩ := hc4 wr (HB.out.trans (HBo.out.mono HB.out.size))
            have hend := HRun.out.ends j hje
            have HStj := Lib.hid (HSt.out j hjl)
            have HStep := Lib.hid (HExt.out j (by rw [HEl.out]; exact hjl))
            have hnet : (netE g)[j]! = ⟨g.edges[j]!.src.toNat, g.edges[j]!.dst.toNat, stepG g g.edges[j]!⟩ := by
              unfold netE
              rw [getElem!_pos _ j (by rw [List.length_map]; exact hje), List.getElem_map, getElem!_pos g.edges j hje]
            rw [hnet] at HStep
            rw [HN3.out] at hend
            generalize stepG g g.edges[j]! = st at *
            generalize hed : g.edges[j]! = ed at *
            obtain ⟨src, dst, port, ex⟩ := ed
            simp only at hend e0 e1 e2 e3
            obtain ⟨sn, rfl⟩ : ∃ q : Nat, src = (q : Int) := ⟨src.toNat, by omega⟩
            obtain ⟨dn, rfl⟩ : ∃ q : Nat, dst = (q : Int) := ⟨dst.toNat, by omega⟩
            simp only [Int.toNat_natCast] at hend HStep
            have hsn := hend.2.1
            have hdn := hend.2.2.2
            clear hed hnet hend hc4 hje
            obtain ⟨we, rfl⟩ : ∃ we : World, we = wr := ⟨_, rfl⟩
            obtain ⟨b, off, q, d, rfl, his, hcl⟩ := HRw.out sn hsn
            obtain ⟨q', d', hqq, hop⟩ := RowKind.Is.opened his
            simp only [Value.slice.injEq] at hqq
            obtain ⟨rfl, _, rfl⟩ := hqq
            have HEl4 : Hid (∀ t, t < List.length nx[sn]! → ∃ bq oq, q = some ⟨bq, oq, none⟩ ∧ ∀ W, Below wo.heap.size wo W → elemL W ⟨bq, oq + t * 11, none⟩ 0 11 = some (HV.enc (nx[sn]!)[t]!)) := fun t ht => by
              obtain ⟨bq, oq, e, hb, hr⟩ := hop t ht
              exact ⟨bq, oq, e, fun W hW => hop_elem hr hb hW t ht⟩
            have HCl := Lib.hid hcl
            have hbw : b < wo.heap.size := World.block_lt_of_cell? _ _ (hcl wo (Below.refl _ _))
            have HBw := Lib.hid hbw
            have hfew : ∀ m : Nat, List.length nx[m]! ≤ 7140250000 := HFew.out r nx (by omega) HRd.out
            have hXf := ext_size nx 7140250000 hfew ((netE g).take j) nx (fun e he => by have := (HRun.out.fine.lt e (List.mem_of_mem_take he)).2; rw [HN3.out] at this; rw [HRl.out]; exact this) dn
            have hXl : (ext nx nx ((netE g).take j)).length = n3 := by rw [ext_len]; exact HRl.out
            have hjt : ((netE g).take j).length ≤ 64 := by rw [List.length_take]; omega
            generalize hXX : ext nx nx ((netE g).take j) = X at *
            have HXl := Lib.hid hXl
            have hmul : ((netE g).take j).length * 7140250000 ≤ 64 * 7140250000 := Nat.mul_le_mul_right _ hjt
            have HXf : Hid (List.length X[dn]! ≤ 65 * 7140250000) := by show _ ≤ _; have := hfew dn; omega
            have HSf : Hid (List.length nx[sn]! ≤ 7140250000) := hfew sn
            clear hop his hcl hfew hXf hXl hjt hmul hbw hXX
            have HDn := Lib.hid hdn; have HSn := Lib.hid hsn
            have hsz : (sn : Int) < (n3 : Int) := by omega
            have hdz : (dn : Int) < (n3 : Int) := by omega
            generalize hls : nx[sn]! = ls at *
            generalize hln : List.length ls = ln at *
            have HLs := Lib.hid hls; have HLn := Lib.hid hln
            clear hls hln hdn hsn
            go_wp2_with fail
            refine gen_world (fun W2 => Hid (Boxed W2 we.heap.size #[.int .i64 (sn : Int), .int .i64 (dn : Int), .int .i64 port, .bool ex] 42) ∧ Hid (OHH wo.heap.size W2 wo.heap.size svs X) ∧ Hid (Below wo.heap.size wo W2)) ⟨Lib.hid (Boxed.new _ _ _), Lib.hid (HO.out.below ((Below.refl _ _).alloc (Nat.le_refl _) _)), Lib.hid (HBo.out.alloc HBo.out.size _)⟩ ?_
            have hbo := HBo.out.size
            clear e0 e1 e2 e3 d3 HO HBo
            generalize hbx : we.heap.size = bx
            have HBxw : Hid (wo.heap.size ≤ bx) := by rw [← hbx]; exact hbo
            clear hbx hbo
            rintro w5 ⟨HX5, HO5, HB5⟩
            go_loopg [11] ln (fun gg i wr => ∃ (t : Nat) (svs : List SV), t ≤ ln ∧ ln - t ≤ gg ∧ i = .int .i64 (t : Int) ∧ Hid (OHH wo.heap.size wr wo.heap.size svs (X.set dn (X[dn]! ++ along st (ls.take t)))) ∧ Hid (svs.length = n3) ∧ Hid (Below wo.heap.size wo wr) ∧ Hid (Boxed wr bx #[.int .i64 (sn : Int), .int .i64 (dn : Int), .int .i64 port, .bool ex] 42))
            case atStart => exact ⟨0, svs, Nat.zero_le _, by omega, rfl, by rw [List.take_zero, show along st [] = [] from rfl, List.append_nil, set_same _ _ (by rw [HXl.out]; exact HDn.out)]; exact HO5.out, HSl.out, HB5.out, HX5.out⟩
            case round =>
              clear HO5 HSl HB5 HX5
              obtain ⟨t, svs, ht, hg4, rfl, HO, HSl, HBo, HBx⟩ := hrel
              have g0 : wr.cell? ⟨bx, 0, none⟩ = some (.int .i64 (sn : Int)) := HBx.out.cell 0
              have r0 := HCl.out wr HBo.out
              by_cases htl : t < ln
              · have htz : (t : Int) < (ln : Int) := by omega
                obtain ⟨bq, oq, rfl, hel⟩ := HEl4.out t htl
                have HK : Hid (∀ W, Below wr.heap.size wr W → (W.cell? ⟨w.heap.size, 0, none⟩ = some (.slice p1 n1 c1) ∧ W.cell? ⟨w.heap.size, 1, none⟩ = some (.slice p2 n2 c2) ∧ W.cell? ⟨w.heap.size, 2, none⟩ = some (.slice p3 n3 c3) ∧ W.cell? ⟨w.heap.size, 3, none⟩ = some (.slice (some ⟨b4, off4, none⟩) n4 c4)) ∧
                    (W.cell? ⟨bx, 0, none⟩ = some (.int .i64 (sn : Int)) ∧ W.cell? ⟨bx, 1, none⟩ = some (.int .i64 (dn : Int)) ∧ W.cell? ⟨bx, 2, none⟩ = some (.int .i64 port) ∧ W.cell? ⟨bx, 3, none⟩ = some (.bool ex)) ∧
                    W.cell? ⟨b, off + sn, none⟩ = some (.slice (some ⟨bq, oq, none⟩) ln d) ∧ (W.cell? ⟨bq, oq + t * 11, none⟩ = some (.int .i64 (ls[t]!).f) ∧ W.cell? ⟨bq, oq + t * 11 + 1, none⟩ = some (.int .i64 (ls[t]!).k) ∧ W.cell? ⟨bq, oq + t * 11 + 2, none⟩ = some (.int .i64 (ls[t]!).t) ∧ W.cell? ⟨bq, oq + t * 11 + 3, none⟩ = some (.int .i64 (ls[t]!).a0) ∧ W.cell? ⟨bq, oq + t * 11 + 4, none⟩ = some (.int .i64 (ls[t]!).a1) ∧ W.cell? ⟨bq, oq + t * 11 + 5, none⟩ = some (.int .i64 (ls[t]!).a2) ∧ W.cell? ⟨bq, oq + t * 11 + 6, none⟩ = some (.int .i64 (ls[t]!).a3) ∧ W.cell? ⟨bq, oq + t * 11 + 7, none⟩ = some (.int .i64 (ls[t]!).b0) ∧ W.cell? ⟨bq, oq + t * 11 + 8, none⟩ = some (.int .i64 (ls[t]!).b1) ∧ W.cell? ⟨bq, oq + t * 11 + 9, none⟩ = some (.int .i64 (ls[t]!).b2) ∧ W.cell? ⟨bq, oq + t * 11 + 10, none⟩ = some (.int .i64 (ls[t]!).b3))) := fun W hW => by
                  have hWo := HBo.out.trans (hW.mono HBo.out.size)
                  have r := HXo.out W hWo
                  have x := HBx.out.below hW HBx.out.lt
                  exact ⟨⟨rowOf_cell r 0, rowOf_cell r 1, rowOf_cell r 2, rowOf_cell r 3⟩, ⟨x.cell 0, x.cell 1, x.cell 2, x.cell 3⟩, HCl.out W hWo, elem_cells (hel W hWo)⟩
                have HStW : Hid (∀ W, Below wr.heap.size wr W → Calls Try.prog 15 #[.agg #[.slice p1 n1 c1, .slice p2 n2 c2, .slice p3 n3 c3, .slice (some ⟨b4, off4, none⟩) n4 c4], .agg #[.int .i64 (sn : Int), .int .i64 (dn : Int), .int .i64 port, .bool ex]] W (Ret st.val W)) := fun W hW => HStj.out W ((HB.out.trans (HBo.out.mono HB.out.size)).trans (hW.mono (Nat.le_trans HB.out.size HBo.out.size)))
                have HBq : Hid (bq < wr.heap.size) := by
                  obtain ⟨bq', oq', e, hel'⟩ := HEl4.out t htl
                  have hk := (elemL_get (hel wr HBo.out)).2 0 _ rfl
                  rw [Addr.add_lit] at hk
                  exact World.block_lt_of_cell? _ _ hk
                have HTh : Hid (∀ W, Calls Try.prog 19 #[(ls[t]!).val, st.val] W (Ret (.tuple #[(thenV ls[t]! st).val, .bool (thenOk ls[t]! st)]) W)) := fun W => docThen _ _ W
                have HAl := Lib.hid (along_take st ls t (by rw [HLn.out]; exact htl))
                generalize ls[t]! = y at *
                generalize thenV y st = z at *
                generalize thenOk y st = ok at *
                clear g0 r0 hel
                obtain ⟨⟨k0, k1, k2, k3⟩, ⟨k4, k5, k6, k7⟩, k8, ⟨k9, k10, k11, k12, k13, k14, k15, k16, k17, k18, k19⟩⟩ := HK.out wr (Below.refl _ _)
                have HLt : Hid (∀ W : World, wr.heap.size ≤ W.heap.size → (bq < W.heap.size ∧ bq ≠ W.heap.size) ∧ (bx < W.heap.size ∧ bx ≠ W.heap.size) ∧ (w.heap.size < W.heap.size ∧ w.heap.size ≠ W.heap.size) ∧ (b < W.heap.size ∧ b ≠ W.heap.size)) := fun W hW => by
                  have a1 := HBq.out
                  have a2 := HBx.out.lt
                  have a3 : w.heap.size < wr.heap.size := rowOf_lt (HXo.out wr HBo.out)
                  have a4 : b < wr.heap.size := Nat.lt_of_lt_of_le HBw.out HBo.out.size
                  omega
                obtain ⟨⟨l1, l2⟩, ⟨l3, l4⟩, ⟨l5, l6⟩, l7, l8⟩ := HLt.out wr (Nat.le_refl _)
                clear k0 k1 k2 k3 k4 k5 k6 k7 k8 k9 k10 k11 k12 k13 k14 k15 k16 k17 k18 k19
                have g0 : wr.cell? ⟨bx, 0, none⟩ = some (.int .i64 (sn : Int)) := HBx.out.cell 0
                have r0 := HCl.out wr HBo.out
                go_wp2_with fail
                refine wp_region_float (ka := 15) (ks := 16) (d := 12) (oa := _) (os := _) (ta := []) (ts := [87]) (pv := fun b => .pointer (some ⟨b, 0, none⟩)) (us := undef) (B1 := fun b W => W.heap[b]? = some (.cells (hvRow HV.zero) 46 (0, 0))) (B2 := fun b W => W.heap[b]? = some (.cells (hvRow z) 46 (0, 0))) (fin := ?fin) (m := false) (by kernel_rfl) rfl rfl rfl rfl rfl (by kernel_rfl) (by kernel_rfl) (by simp) ?st1 ?st2 ?ha ?hs ?h ?hQ
                case h =>
                  intro V hV
                  simp only [flo, List.set_cons_succ, List.set_cons_zero]
                  obtain ⟨⟨x0, x1, x2, x3⟩, ⟨y0, y1, y2, y3⟩, q0, ⟨z0, z1, z2, z3, z4, z5, z6, z7, z8, z9, z10⟩⟩ := HK.out V hV.1
                  have X0 := fun p : Bd false V => bd_cell x0 p
                  have X1 := fun p : Bd false V => bd_cell x1 p
                  have X2 := fun p : Bd false V => bd_cell x2 p
                  have X3 := fun p : Bd false V => bd_cell x3 p
                  have Y0 := fun p : Bd false V => bd_cell y0 p
                  have Y1 := fun p : Bd false V => bd_cell y1 p
                  have Y2 := fun p : Bd false V => bd_cell y2 p
                  have Y3 := fun p : Bd false V => bd_cell y3 p
                  have Q0 := fun p : Bd false V => bd_cell q0 p
                  have Z0 := fun p : Bd false V => bd_cell z0 p
                  have Z1 := fun p : Bd false V => bd_cell z1 p
                  have Z2 := fun p : Bd false V => bd_cell z2 p
                  have Z3 := fun p : Bd false V => bd_cell z3 p
                  have Z4 := fun p : Bd false V => bd_cell z4 p
                  have Z5 := fun p : Bd false V => bd_cell z5 p
                  have Z6 := fun p : Bd false V => bd_cell z6 p
                  have Z7 := fun p : Bd false V => bd_cell z7 p
                  have Z8 := fun p : Bd false V => bd_cell z8 p
                  have Z9 := fun p : Bd false V => bd_cell z9 p
                  have Z10 := fun p : Bd false V => bd_cell z10 p
                  clear x0 x1 x2 x3 y0 y1 y2 y3 q0 z0 z1 z2 z3 z4 z5 z6 z7 z8 z9 z10
                  have K1 : Hid (∀ p : Bd false V, Calls Try.prog 15 #[.agg #[.slice p1 n1 c1, .slice p2 n2 c2, .slice p3 n3 c3, .slice (some ⟨b4, off4, none⟩) n4 c4], .agg #[.int .i64 (sn : Int), .int .i64 (dn : Int), .int .i64 port, .bool ex]] p.w (Ret st.val p.w)) := fun p => HStW.out p.w (bstep hV.1 p.h.1 hV.1.size)
                  have K2 : Hid (∀ p : Bd false V, Calls Try.prog 19 #[y.val, st.val] p.w (Ret (.tuple #[z.val, .bool ok]) p.w)) := fun p => HTh.out p.w
                  repeat (first | go_big_quiet_step (first | (with_reducible exact Calls.bd (K1.out _)) | (with_reducible exact Calls.bd (K2.out _))) | quiet_step (first | (with_reducible exact Calls.bd (K1.out _)) | (with_reducible exact Calls.bd (K2.out _))))
                  refine wpQuiet_nil ?_
                  rfl
                case st1 => exact fun b W W' h hb => (hb.block b (Array.getElem?_eq_some_iff.1 h).1).trans h
                case st2 => exact fun b W W' h hb => (hb.block b (Array.getElem?_eq_some_iff.1 h).1).trans h
                case ha =>
                  intro ρ W _
                  refine ⟨W.alloc (.cells (hvRow HV.zero) 46), ?_, ⟨(Below.refl _ _).alloc (Nat.le_refl _) _, fun _ => Nat.le_refl _⟩, heap_alloc_new W _⟩
                  simp [execOp, go_sem]
                  rfl
                case hs =>
                  intro c W b K hb hB h1 hd ht hK
                  have h18 := ht 87 (by simp)
                  have hr : rowOf W b = some (hvRow HV.zero) := by unfold rowOf; rw [h1]; simp
                  have h18' : c.eval (.tmp 87) = z.val := h18
                  rw [storeH, hd, h18']
                  simp only [rowAt_head, hr]
                  rw [if_pos ⟨rfl, rfl, by decide, rfl⟩]
                  exact hK _ ⟨below_setRow hB.1 _ _ hb, fun e => by cases e⟩ (RowKind.heap_set h1)
                case hQ =>
                  intro b2 W hb hB hh
                  simp only [Act.put, List.setIfInBounds_toArray, List.set_cons_succ, List.set_cons_zero]
                  have HBW := Lib.hid hB.1
                  have HHW : Hid (rowOf W b2 = some (hvRow z)) := by rw [Hid]; unfold rowOf; rw [hh]; simp
                  have HHB : Hid (Boxed W b2 (hvRow z) 46) := hh
                  have HOW := Lib.hid (HO.out.below hB.1)
                  have hlb : ln ≤ 7140250000 := HSf.out
                  have HBoW := Lib.hid (HBo.out.trans (hB.1.mono HBo.out.size))
                  have HBxW := Lib.hid (HBx.out.below hB.1 HBx.out.lt)
                  have hbW := hB.1.size
                  clear hB hh HO HBo HBx HK HStW HTh HLt l1 l2 l3 l4 l5 l6 l7 l8 g0 r0
                  have hXd : dn < X.length := by rw [HXl.out]; exact HDn.out
                  cases hok : ok
                  · subst hok
                    have HA : Hid (along st (ls.take (t + 1)) = along st (ls.take t)) := by
                      rw [Hid, HAl.out, if_neg (by simp), List.append_nil]
                    go_wp2_with fail
                    go_roundg (ln - (t + 1))
                    case measure => omega
                    case rel => exact ⟨t + 1, svs, by omega, by omega, by go_num, by rw [HA.out]; exact HOW.out, HSl.out, HBoW.out, HBxW.out⟩
                  · subst hok
                    have HA : Hid (along st (ls.take (t + 1)) = along st (ls.take t) ++ [z]) := by
                      rw [Hid, HAl.out, if_pos rfl]
                    have hdl : dn < svs.length := by rw [HSl.out]; exact HDn.out
                    have hx := HOW.out.cell dn hdl
                    have hown := HOW.out.own dn hdl
                    have hgt := HOW.out.get dn hdl
                    rw [set_get _ _ _ _ hXd, if_pos rfl] at hown hgt
                    have hll : (along st (ls.take t)).length ≤ 7140250000 := by
                      have a1 := along_len st (ls.take t)
                      rw [List.length_take] at a1
                      omega
                    have hln2 : (X[dn]! ++ along st (ls.take t)).length ≤ 66 * 7140250000 := by
                      rw [List.length_append]
                      have := HXf.out
                      omega
                    have HSet : Hid ((X.set dn (X[dn]! ++ along st (ls.take t))).set dn ((X[dn]! ++ along st (ls.take t)) ++ [z]) = X.set dn (X[dn]! ++ along st (ls.take (t + 1)))) := by
                      rw [Hid, HA.out, List.set_set, List.append_assoc]
                    have hX2 : (X.set dn (X[dn]! ++ along st (ls.take t)))[dn]! = X[dn]! ++ along st (ls.take t) := by rw [set_get _ _ _ _ hXd, if_pos rfl]
                    generalize X.set dn (X[dn]! ++ along st (ls.take t)) = X2 at *
                    generalize X[dn]! ++ along st (ls.take t) = xs at *
                    have HOA : Hid (OHH wo.heap.size ((W.alloc (.cells (hvRow z) 46)).drew) wo.heap.size svs X2) := (HOW.out.below ((Below.refl _ _).alloc (Nat.le_refl _) _)).drew
                    have HXA : Hid (Boxed ((W.alloc (.cells (hvRow z) 46)).drew) bx #[.int .i64 (sn : Int), .int .i64 (dn : Int), .int .i64 port, .bool ex] 42) := Boxed.alloc HBxW.out _
                    have HSz : Hid (wo.heap.size ≤ ((W.alloc (.cells (hvRow z) 46)).drew).heap.size) := by
                      rw [Hid]
                      show wo.heap.size ≤ (W.alloc _).heap.size
                      rw [World.size_alloc]
                      have := HBoW.out.size
                      omega
                    have HApp := Lib.hid (fun v5 w5 ys (ho : RHp.Own wo.heap.size w5 v5 ys) (hg : ((W.alloc (.cells (hvRow z) 46)).drew).grownBy w5 svs[dn]!.val.ownBlock) (hs : StaysOrNew ((W.alloc (.cells (hvRow z) 46)).drew) svs[dn]!.val v5) => HOA.out.app HSz.out hdl hg ho hs)
                    have hownA := HOA.out.own dn hdl
                    rw [hX2] at hownA
                    generalize hsv : svs[dn]! = s at *
                    obtain ⟨pn, nn, cn⟩ := s
                    simp only at hgt
                    subst hgt
                    have HOwA := Lib.hid hownA
                    have HIsA : Hid (RHp.Is ((W.alloc (.cells (hvRow z) 46)).drew) (.slice (some ⟨W.heap.size, 0, none⟩) 1 1) [z]) := (RHp_lit W z).is.below (Below.refl _ _).drew
                    have HLen : Hid ((xs.length + List.length [z]) * RHp.bytes ≤ 140737488355328) := by show (_ + 1) * 88 ≤ _; omega
                    have x_1 : W.cell? ⟨bx, 1, none⟩ = some (.int .i64 (dn : Int)) := HBxW.out.cell 1
                    have E5 : elemL W ⟨b2, 0, none⟩ 0 11 = some (HV.enc z) := row_elem HHW.out
                    have L2 : b2 < W.heap.size := rowOf_lt HHW.out
                    have D2 := Nat.ne_of_lt L2
                    have L3 : bx < W.heap.size := HBxW.out.lt
                    have D3 := Nat.ne_of_lt L3
                    have L4 : wo.heap.size < W.heap.size := HOW.out.lt
                    have D4 := Nat.ne_of_lt L4
                    have HKeep : Hid (∀ v5 w5 ys', OGrown wo.heap.size ((W.alloc (.cells (hvRow z) 46)).drew) w5 wo.heap.size dn svs X2 v5 ys' → w5.cell? ⟨wo.heap.size, dn, none⟩ = some (.slice pn xs.length cn) ∧ w5.cell? ⟨bx, 1, none⟩ = some (.int .i64 (dn : Int)) ∧ w5.frozen? ⟨wo.heap.size, dn, none⟩ = false) := fun v5 w5 ys' o => ⟨by have := o.cell; rw [hsv] at this; exact this, by
                      have hne : bx ≠ wo.heap.size := fun e => by
                        have a1 := HXA.out
                        have a2 := HOA.out.heap
                        unfold Boxed at a1
                        rw [e, a2] at a1
                        injection a1 with a1
                        injection a1 with _ a3 _
                        exact absurd a3 (by decide)
                      have a4 := o.box _ _ _ HXA.out (by decide) (by decide)
                      have a5 : Boxed w5 bx #[.int .i64 (sn : Int), .int .i64 (dn : Int), .int .i64 port, .bool ex] 42 := (Below.heap_setCell w5 ⟨wo.heap.size, dn, none⟩ v5 bx hne).symm.trans a4
                      exact a5.cell 1, o.frozen⟩
                    have hdz2 : (dn : Int) < (n3 : Int) := by omega
                    have HREL : Hid (∀ (sv : SV) w6, OHH wo.heap.size w6 wo.heap.size (svs.set dn sv) (X2.set dn (xs ++ [z])) → Below wo.heap.size ((W.alloc (.cells (hvRow z) 46)).drew) w6 → Hid (OHH wo.heap.size w6 wo.heap.size (svs.set dn sv) (X.set dn (X[dn]! ++ along st (ls.take (t + 1))))) ∧ Hid ((svs.set dn sv).length = n3) ∧ Hid (Below wo.heap.size wo w6)) := fun sv w6 h1 h2 => ⟨by rw [HSet.out] at h1; exact h1, by rw [Hid, List.length_set]; exact HSl.out, (HBoW.out.alloc HBoW.out.size _).drew.trans h2⟩
                    clear hsv hown hownA hX2 hln2 HSet HOW hll hdl HA HAl hXd hbW HBxW HBoW HHB HHW HBW hb HBq HCl HEl4 HSl HLn HLs HSf HStep hsz hdz HSn HDn HXf HXl HBw HRw HStj HXo HX
                    go_wp2_with fail
                    go_region_law (first | (refine RowKind.Own.appendAnyRL (R := RHp) (by decide) rfl _ _ rfl HOwA.out rfl rfl HIsA.out HLen.out HSz.out ?_; intro v5 w5 hO5 hg5 hs5; have hA := HApp.out v5 w5 _ hO5 hg5 hs5; obtain ⟨a1, a3, a2⟩ := HKeep.out _ _ _ hA; have hbl := hA.below; have HBx6 := Lib.hid (hA.box _ _ _ HXA.out (by decide) (by decide)); obtain ⟨⟨q5, n5, d5⟩, hv5, hN⟩ := hA.new; subst hv5; have HN := Lib.hid hN; have HBl := Lib.hid hbl; clear hA hO5 hg5 hs5 hN hbl))
                    all_goals
                      try simp only [List.getElem_toArray, List.getElem_cons_succ, List.getElem_cons_zero, Act.put, List.setIfInBounds_toArray, List.set_cons_zero, List.set_cons_succ]
                      go_wp2_with fail
                      go_roundg (ln - (t + 1))
                      case measure => omega
                      case rel => exact ⟨t + 1, svs.set dn ⟨q5, n5, d5⟩, by omega, by omega, by go_num, (HREL.out _ _ HN.out HBl.out).1.out, (HREL.out _ _ HN.out HBl.out).2.1.out, (HREL.out _ _ HN.out HBl.out).2.2.out, HBx6.out⟩
              · have htz : ¬ (t : Int) < (ln : Int) := by omega
                obtain rfl : ln = t := by omega
                have hall : ls.take ln = ls := by rw [← HLn.out]; exact List.take_length
                have HO2 : Hid (OHH wo.heap.size wr wo.heap.size svs (ext nx nx ((netE g).take (j + 1)))) := by
                  have := HO.out
                  rw [hall] at this
                  rw [Hid, HStep.out]
                  exact this
                clear hall HO HEl4 HCl HStj HStep HXo HRw HBx HBxw
                go_wp2_with fail
                go_roundg (n4 - (j + 1))
                case measure => omega
                case rel => exact ⟨j + 1, svs, by omega, by omega, by go_num, HO2.out, HSl.out, HBo.out⟩
          · have hjz : ¬ (j : Int) < (n4 : Int) := by omega
            obtain rfl : n4 = j := by omega
            have hall : (netE g).take n4 = netE g := by rw [← HEl.out]; exact List.take_length
            have HO5 : Hid (OHH wo.heap.size wr wo.heap.size svs (ext nx nx (netE g))) := by
              have := HO.out
              rw [hall] at this
              exact this
            have HXl5 : Hid ((ext nx nx (netE g)).length = n3) := by rw [Hid, ext_len]; exact HRl.out
            have hfew : ∀ m : Nat, List.length nx[m]! ≤ 7140250000 := HFew.out r nx (by omega) HRd.out
            have HF5 : Hid (∀ m : Nat, List.length (ext nx nx (netE g))[m]! ≤ 65 * 7140250000) := fun m => by
              have hXf := ext_size nx 7140250000 hfew (netE g) nx (fun e he => by have := (HRun.out.fine.lt e he).2; rw [HN3.out] at this; rw [HRl.out]; exact this) m
              have hmul : (netE g).length * 7140250000 ≤ 64 * 7140250000 := Nat.mul_le_mul_right _ (by rw [HEl.out]; exact hE)
              have := hfew m
              omega
            have HF6 := Lib.hid hfew
            have HSt5 : Hid (∀ R5 : List (List HV), R5.length = n3 → (∀ m, m < n3 → R5[m]! = leastH (ext nx nx (netE g))[m]!) → R5 = stepRow (netE g) nx) := fun R5 h1 h2 => by
              unfold stepRow
              refine List.ext_getElem (by rw [List.length_map, HXl5.out, h1]) fun m hm hm2 => ?_
              have := h2 m (by rw [← h1]; exact hm)
              rw [getElem!_pos R5 m hm, getElem!_pos (ext nx nx (netE g)) m (by rw [HXl5.out, ← h1]; exact hm)] at this
              rw [List.getElem_map]
              exact this
            have HSame : Hid (((List.range n3).all fun m => likeH (leastH (ext nx nx (netE g))[m]!) nx[m]!) = sameRow (stepRow (netE g) nx) nx) := by
              rw [Hid, Bool.eq_iff_iff]
              unfold sameRow stepRow
              rw [List.length_map, HXl5.out, List.all_eq_true, List.all_eq_true]
              refine forall_congr' fun m => forall_congr' fun hm => ?_
              have hm' := List.mem_range.1 hm
              rw [getElem!_pos (List.map leastH (ext nx nx (netE g))) m (by rw [List.length_map, HXl5.out]; exact hm'), List.getElem_map, getElem!_pos (ext nx nx (netE g)) m (by rw [HXl5.out]; exact hm')]
            have HRng := Lib.hid (fun k => all_range (k := k) (fun m => likeH (leastH (ext nx nx (netE g))[m]!) nx[m]!))
            clear hall HO HXo HExt hfew
            generalize ext nx nx (netE g) = X5 at *
            obtain ⟨w9, rfl⟩ : ∃ w9 : World, w9 = wr := ⟨_, rfl⟩
            go_wp2_with fail
            clear d3
            go_loopg [15, 14] n3 (fun gg i sv wr => ∃ (k : Nat) (svs : List SV) (R5 : List (List HV)), k ≤ n3 ∧ n3 - k ≤ gg ∧ i = .int .i64 (k : Int) ∧ sv = .bool ((List.range k).all fun m => likeH (leastH X5[m]!) nx[m]!) ∧ Hid (OHH wo.heap.size wr wo.heap.size svs R5) ∧ Hid (svs.length = n3 ∧ R5.length = n3 ∧ ∀ m, m < n3 → R5[m]! = if m < k then leastH X5[m]! else X5[m]!) ∧ Hid (Below wo.heap.size wo wr))
            case atStart => exact ⟨0, svs, X5, Nat.zero_le _, by omega, rfl, rfl, HO5.out, ⟨HSl.out, HXl5.out, fun m hm => by rw [if_neg (Nat.not_lt_zero m)]⟩, HBo.out⟩
            case round =>
              clear HO5 HSl HBo
              obtain ⟨k, svs, R5, hk, hg5, rfl, rfl, HO, HQ, HBo⟩ := hrel
              by_cases hkl : k < n3
              · have hkz : (k : Int) < (n3 : Int) := by omega
                obtain ⟨b, off, q, d, rfl, his, hcl⟩ := HRw.out k hkl
                have hks : k < svs.length := by rw [HQ.out.1]; exact hkl
                have hown := (HO.out.own k hks).is
                have hcell := HO.out.cell k hks
                have hRk := HQ.out.2.2 k hkl
                rw [if_neg (Nat.lt_irrefl k)] at hRk
                rw [hRk] at hown
                have hl5 := HF5.out k
                have hl6 := HF6.out k
                have HLe : Hid (Calls Try.prog 20 #[svs[k]!.val] wr (RHp.Made (leastH X5[k]!) wr)) := rleast_any X5[k]! _ wr (by omega) hown
                have hll := leastH_len X5[k]!
                have HLk : Hid (∀ W va, RHp.Is W va (leastH X5[k]!) → RHp.Is W (.slice q (List.length nx[k]!) d) nx[k]! → Calls Try.prog 10 #[va, .slice q (List.length nx[k]!) d] W (Ret (.bool (likeH (leastH X5[k]!) nx[k]!)) W)) := fun W va h1 h2 => rlike_any _ _ _ _ W (by omega) (by omega) h1 h2
                have HSet : Hid (∀ sv : SV, (svs.set k sv).length = n3 ∧ (R5.set k (leastH X5[k]!)).length = n3 ∧ ∀ m, m < n3 → (R5.set k (leastH X5[k]!))[m]! = if m < k + 1 then leastH X5[m]! else X5[m]!) := fun sv => ⟨by rw [List.length_set]; exact HQ.out.1, by rw [List.length_set]; exact HQ.out.2.1, fun m hm => by
                  rw [set_get _ _ _ _ (by rw [HQ.out.2.1]; exact hkl)]
                  by_cases e : k = m
                  · subst e; rw [if_pos rfl, if_pos (Nat.lt_succ_self k)]
                  · rw [if_neg e, HQ.out.2.2 m hm]
                    by_cases e2 : m < k
                    · rw [if_pos e2, if_pos (by omega)]
                    · rw [if_neg e2, if_neg (by omega)]⟩
                have hrng := HRng.out k
                generalize hsm : ((List.range k).all fun m => likeH (leastH X5[m]!) nx[m]!) = sm at *
                have HIsN := Lib.hid his
                have HClN := Lib.hid hcl
                have hwo : wo.heap.size ≤ wr.heap.size := HBo.out.size
                have HRg : Hid (((List.range (k + 1)).all fun m => likeH (leastH X5[m]!) nx[m]!) = (sm && likeH (leastH X5[k]!) nx[k]!)) := hrng
                clear hsm hown hRk hl5 hl6 hll his hcl hrng HQ
                generalize likeH (leastH X5[k]!) nx[k]! = lk at *
                generalize leastH X5[k]! = ys at *
                generalize hln : List.length nx[k]! = ln at *
                clear hln
                have HPutF : Hid (∀ (w11 : World) (p5' : Option Addr) (c5' : Nat), Below wr.heap.size wr w11 → RHp.Own wr.heap.size w11 (.slice p5' ys.length c5') ys →
                    Hid (OHH wo.heap.size (w11.setCell ⟨wo.heap.size, k, none⟩ (.slice p5' ys.length c5')) wo.heap.size (svs.set k ⟨p5', ys.length, c5'⟩) (R5.set k ys)) ∧ Hid (RHp.Is (w11.setCell ⟨wo.heap.size, k, none⟩ (.slice p5' ys.length c5')) (.slice p5' ys.length c5') ys) ∧
                    w11.cell? ⟨wo.heap.size, k, none⟩ = some svs[k]!.val ∧ w11.frozen? ⟨wo.heap.size, k, none⟩ = false ∧ Hid (Below wo.heap.size wo (w11.setCell ⟨wo.heap.size, k, none⟩ (.slice p5' ys.length c5')))) := fun w11 p5' c5' hb5 ho5 => by
                  have HO5 := HO.out.below hb5
                  have HPut : OHH wo.heap.size (w11.setCell ⟨wo.heap.size, k, none⟩ (SV.val ⟨p5', ys.length, c5'⟩)) wo.heap.size (svs.set k ⟨p5', ys.length, c5'⟩) (R5.set k ys) :=
                    HO.out.put hwo hks hb5.size (fun l hl _ => hb5.block l hl) (s := ⟨p5', ys.length, c5'⟩) (ho5.mono hwo) (.inr fun k2 hk2 => own_ge ho5 hk2)
                  have q := (HPut.own k (by rw [List.length_set]; exact hks)).is
                  rw [set_get _ _ _ _ hks, if_pos rfl, set_get _ _ _ _ (by rw [← HO.out.len]; exact hks), if_pos rfl] at q
                  exact ⟨HPut, q, HO5.cell k hks, HO5.frozen k, (bstep HBo.out hb5 HBo.out.size).setCell (Nat.le_refl _) _⟩
                clear HO HBo hks
                generalize hsk : svs[k]! = sk at *
                obtain ⟨pk, nk, ck⟩ := sk
                clear hsk
                go_wp2_with fail
                refine (HLe.out).mono ?_
                rintro e w11 ⟨v5, rfl, ho5, hb5⟩
                obtain ⟨p5', c5', rfl⟩ := ho5.is.slice
                obtain ⟨HPut, HIs5, hc11, hf11, HB11⟩ := HPutF.out w11 p5' c5' hb5 ho5
                clear ho5 hb5 hcell HLe HPutF
                go_upto_region 24 with (fail)
                refine gen_world (fun W2 => Hid (OHH wo.heap.size W2 wo.heap.size (svs.set k ⟨p5', ys.length, c5'⟩) (R5.set k ys)) ∧ Hid (RHp.Is W2 (.slice p5' ys.length c5') ys) ∧ Hid (Below wo.heap.size wo W2)) ⟨HPut, HIs5, HB11⟩ ?_
                clear HPut HIs5 HB11 hc11 hf11
                rintro w12 ⟨HP, HI5, HB12⟩
                have x1 := bx_cell (show w12.cell? ⟨wo.heap.size, k, none⟩ = some (.slice p5' ys.length c5') from by
                  have hl : k < (svs.set k (⟨p5', ys.length, c5'⟩ : SV)).length := by rw [(HSet.out ⟨p5', ys.length, c5'⟩).1]; exact hkl
                  have q := HP.out.cell k hl
                  rw [set_get _ _ _ _ (by rw [List.length_set] at hl; exact hl), if_pos rfl] at q
                  exact q)
                have x2 := bx_cell (HClN.out w12 HB12.out)
                have K1 : Hid (∀ p : Bx w12, Calls Try.prog 10 #[.slice p5' ys.length c5', .slice q ln d] p.w (Ret (.bool lk) p.w)) := fun p => HLk.out p.w _ (HI5.out.below p.h) (HIsN.out.below (bstep HB12.out p.h HB12.out.size))
                clear HLk HI5 HIsN HClN
                cases sm
                all_goals
                  refine wp_region_bx (by kernel_rfl) (by kernel_rfl) ?_
                  repeat (first | go_big_quiet_step (first | (with_reducible exact Calls.bx (K1.out _))) | quiet_step (first | (with_reducible exact Calls.bx (K1.out _))))
                  refine wpQuiet_nil ?_
                  intro _ hw'
                  obtain ⟨g9, hw''⟩ := hw'
                  subst hw''
                  have hb9 := g9.h
                  generalize g9.w = w13 at hb9 ⊢
                  clear g9
                  have HP13 := Lib.hid (HP.out.below hb9)
                  have HB13 := Lib.hid (bstep HB12.out hb9 HB12.out.size)
                  clear hb9 x1 x2 K1 HP HB12
                  go_wp2_with fail
                  go_roundg (n3 - (k + 1))
                  case measure => omega
                  case rel => exact ⟨k + 1, svs.set k ⟨p5', ys.length, c5'⟩, R5.set k ys, by omega, by omega, by go_num, by rw [HRg.out]; first | rfl | simp, HP13.out, HSet.out _, HB13.out⟩
              · have hkz : ¬ (k : Int) < (n3 : Int) := by omega
                obtain rfl : n3 = k := by omega
                have hR5 := HSt5.out R5 HQ.out.2.1 (fun m hm => by rw [HQ.out.2.2 m hm, if_pos hm])
                have HI9 : Hid (IsHH wr (.slice (some ⟨wo.heap.size, 0, none⟩) n3 n3) (stepRow (netE g) nx)) := by
                  have := HO.out.is (n := n3) HQ.out.2.1.symm
                  rw [hR5] at this
                  exact this
                have hsame := HSame.out
                have HB9 := Lib.hid (bstep HB.out HBo.out HB.out.size)
                have HX9 := Lib.hid (rowOf_below HX.out HBo.out (rowOf_lt HX.out))
                have HDn := Lib.hid (HDone.out r nx HRd.out)
                have HLt := Lib.hid (HLate.out r nx)
                have HNx := Lib.hid (HNext.out r nx HRd.out)
                have HFx : Hid (Rounds (netE g) (depthG g) n3 n (sameG g n) (r + 1) (stepRow (netE g) nx) → r + 1 ≤ 129 → ∀ m : Nat, List.length (stepRow (netE g) nx)[m]! ≤ 7140250000) := fun q hr => HFew.out (r + 1) _ hr q
                have hlen9 : (stepRow (netE g) nx).length = n3 := HNx.out.len
                rw [hsame]
                clear hsame HSt5 HSame HRng HF5 HF6 HQ HO hR5
                generalize hss : sameRow (stepRow (netE g) nx) nx = ss at *
                have HSS := Lib.hid hss
                clear hss
                cases ss
                · have hr4 : r < 4 * n3 := Classical.byContradiction fun e => by
                    have := HLt.out (by omega) HRd.out
                    cases this
                  clear HDn HLt HFx
                  go_wp2_with fail
                  go_roundg (4 * n3 + 1 - (r + 1))
                  case measure => omega
                  case rel => exact ⟨r + 1, _, by omega, by omega, HI9.out, HNx.out, HB9.out, HX9.out⟩
                · clear HLt
                  go_wp2
                  go_returns
                  exact ⟨_, _, rfl, HI9.out, HB9.out, hlen9.trans HN3.out.symm, fun m hm => HDn.out (by first | exact trivial | rfl) m (by rw [← HN3.out]; exact hm), HFx.out HNx.out (by omega)⟩
end Go.Proofs.Ytacmdkbmakfdkaa
