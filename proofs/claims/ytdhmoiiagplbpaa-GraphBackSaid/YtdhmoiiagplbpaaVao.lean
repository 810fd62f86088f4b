/- the law GraphBack -/
import Derived.Test.YtdhmoiiagplbpaaVaq
namespace Go.Proofs.Ytdhmoiiagplbpaa
open Go.RowKit
set_option linter.unusedVariables false
set_option linter.unusedSimpArgs false
attribute [local go_sem ↓] run_imin

theorem putA_back (g : GV) (ok : okG g) : okB (putA g).1 ∧ ((putA g).2 ≠ 0 → (putA g).1 = []) ∧ ((putA g).2 = 0 → readG (putA g).1 = if 8192 < (putA g).1.length then .error 11 else .ok g) := by
  unfold putA
  split
  · rename_i hf
    exact ⟨putG_ok hf ok, fun h => absurd rfl h, fun _ => put_back hf ok⟩
  · exact ⟨(fun x hx => by cases hx), (fun _ => rfl), (fun h => by cases h)⟩
theorem readA_back {F : List Int} (hx : okB F) (gg : GV) (h : readG F = .ok gg) : putA gg = (F, 0) ∧ okG gg := by
  obtain ⟨h1, h2, h3, _⟩ := read_back hx h
  unfold putA
  rw [if_pos h1, h3]
  exact ⟨rfl, h2⟩
set_option maxRecDepth 100000 in
set_option maxHeartbeats 8000000 in
theorem graphBack_walk (g : GV) (xs : List Int) (va vb : Value) (w : World) (ha : IsG w va g) (hb : RB.Is w vb xs) (ca : roomG va) (cb : capOk vb) (oa : okG g) (hn : okB xs) :
    Calls Try.prog 5 #[va, vb] w (Ret (.bool true) w) := by
  have HAW := Lib.hid (fun W => awake_any W)
  have HS1 := Lib.hid (fun W (hW : Below w.heap.size w W) => rshort_any g va W (ha.below hW))
  have HP := Lib.hid (fun W (hW : Below w.heap.size w W) => pput_any g va W (ha.below hW) ca oa)
  have hsh := short_lens g
  have HT := Lib.hid (fun (hs : shortG g = true) (vh : Value) W (hW : Below w.heap.size w W) (hh : IsG W vh g) => (rsame_any g g va vh W (ha.below hW) hh (hsh hs).1 (hsh hs).2.1 (hsh hs).2.2.1 (hsh hs).2.2.2.1 (hsh hs).2.2.2.2))
  have hfa := putA_back g oa
  obtain ⟨a1, a2, a3, a4, a5, a6, a7, a8, a9, a10, a11, a12, rfl, rfl, rfl⟩ := ha.four
  have HTt : Hid (shortG g = true → ∀ (vh : Value) W (hW : Below w.heap.size w W) (hh : IsG W vh g), Calls Try.prog 13 #[.agg #[.slice a1 g.parent.length a3, .slice a4 a5 a6, .slice a7 g.nodes.length a9, .slice a10 a11 a12], vh] W (Ret (.bool true) W)) := fun hs vh W hW hh => by
    have := HT.out hs vh W hW hh
    rw [decide_eq_true rfl] at this
    exact this
  clear HT
  have HT := Lib.hid HTt.out
  clear ha ca oa hsh HTt
  generalize putA g = r at *
  obtain ⟨L, k⟩ := r
  have HOk : Hid (okB L) := hfa.1
  have HNo : Hid (k ≠ 0 → L = []) := hfa.2.1
  have HRd : Hid (k = 0 → readG L = if 8192 < L.length then .error 11 else .ok g) := hfa.2.2
  clear hfa
  generalize shortG g = sg at *
  obtain ⟨p1, c1, rfl⟩ := hb.slice
  have k1 := cb _ _ _ rfl
  clear cb
  have hnt := fun m => show okB (xs.take m) from fun x hx => hn x (List.mem_of_mem_take hx)
  clear hn
  have hlen := fun m (h : m ≤ xs.length) => show (xs.take m).length = m from by rw [List.length_take]; omega
  generalize xs.length = n1 at *
  have HA := Lib.hid hb
  clear hb
  obtain ⟨m1, e1, l1, h1, z1⟩ := cutTo 9000 n1 (by decide)
  have e1 : imin (n1 : Int) 9000 = (m1 : Int) := e1
  have d1 : m1 ≤ c1 := by omega
  have HA2 := Lib.hid (HA.out.cut m1 l1 z1)
  have hF := hnt m1
  have hl := hlen m1 l1
  clear l1 z1 HA k1 hnt hlen
  generalize xs.take m1 = F at *
  subst hl
  have HF := Lib.hid (fun W (hW : Below w.heap.size w W) => pread_any F p1 c1 W (HA2.out.below hW) d1 hF)
  have HBk := Lib.hid (fun gg (h : readG F = .ok gg) => readA_back hF gg h)
  have HSm : Hid (∀ (u : Value) W (hW : Below w.heap.size w W) (hu : RB.Is W u F), Calls Try.prog 11 #[u, .slice p1 F.length c1] W (Ret (.bool true) W)) := fun u W hW hu => by
    have := sameB_any F F u _ W (by omega) hu (HA2.out.below hW)
    rw [decide_eq_true rfl] at this
    exact this
  unfold ReadP at HF
  generalize readG F = rF at *
  clear HA2 hF
  have HB0 := Lib.hid (balloc9 (o := (.cells #[.slice a1 g.parent.length a3, .slice a4 a5 a6, .slice a7 g.nodes.length a9, .slice a10 a11 a12] 26)) (Below.refl w.heap.size w))
  have HX : Hid (rowOf (w.alloc (.cells #[.slice a1 g.parent.length a3, .slice a4 a5 a6, .slice a7 g.nodes.length a9, .slice a10 a11 a12] 26)) w.heap.size = some #[.slice a1 g.parent.length a3, .slice a4 a5 a6, .slice a7 g.nodes.length a9, .slice a10 a11 a12]) := row_new rfl
  have x0 : (w.alloc (.cells #[.slice a1 g.parent.length a3, .slice a4 a5 a6, .slice a7 g.nodes.length a9, .slice a10 a11 a12] 26)).cell? ⟨w.heap.size, 0, none⟩ = some (.slice a1 g.parent.length a3) := rowOf_cell HX.out 0
  have x1 : (w.alloc (.cells #[.slice a1 g.parent.length a3, .slice a4 a5 a6, .slice a7 g.nodes.length a9, .slice a10 a11 a12] 26)).cell? ⟨w.heap.size, 1, none⟩ = some (.slice a4 a5 a6) := rowOf_cell HX.out 1
  have x2 : (w.alloc (.cells #[.slice a1 g.parent.length a3, .slice a4 a5 a6, .slice a7 g.nodes.length a9, .slice a10 a11 a12] 26)).cell? ⟨w.heap.size, 2, none⟩ = some (.slice a7 g.nodes.length a9) := rowOf_cell HX.out 2
  have x3 : (w.alloc (.cells #[.slice a1 g.parent.length a3, .slice a4 a5 a6, .slice a7 g.nodes.length a9, .slice a10 a11 a12] 26)).cell? ⟨w.heap.size, 3, none⟩ = some (.slice a10 a11 a12) := rowOf_cell HX.out 3
  go_enter Try.func5, Try.ntmps5
  go_wp2_with fail
  refine (HAW.out _).mono ?_
  rintro ee w1 ⟨rfl, hb1⟩
  have HB1 := Lib.hid (HB0.out.trans (hb1.mono HB0.out.size))
  have HX9 := HX.out
  clear HX x0 x1 x2 x3
  have HX := Lib.hid (rowOf_below HX9 hb1 (rowOf_lt HX9))
  clear HX9
  have x0 : w1.cell? ⟨w.heap.size, 0, none⟩ = some (.slice a1 g.parent.length a3) := rowOf_cell HX.out 0
  have x1 : w1.cell? ⟨w.heap.size, 1, none⟩ = some (.slice a4 a5 a6) := rowOf_cell HX.out 1
  have x2 : w1.cell? ⟨w.heap.size, 2, none⟩ = some (.slice a7 g.nodes.length a9) := rowOf_cell HX.out 2
  have x3 : w1.cell? ⟨w.heap.size, 3, none⟩ = some (.slice a10 a11 a12) := rowOf_cell HX.out 3
  clear hb1 HB0
  go_wp2_with fail
  refine (HF.out _ HB1.out).mono ?_
  rintro ee w2 ⟨hb1, hq⟩
  have HB2 := Lib.hid (HB1.out.trans (hb1.mono HB1.out.size))
  have HX9 := HX.out
  clear HX x0 x1 x2 x3
  have HX := Lib.hid (rowOf_below HX9 hb1 (rowOf_lt HX9))
  clear HX9
  have x0 : w2.cell? ⟨w.heap.size, 0, none⟩ = some (.slice a1 g.parent.length a3) := rowOf_cell HX.out 0
  have x1 : w2.cell? ⟨w.heap.size, 1, none⟩ = some (.slice a4 a5 a6) := rowOf_cell HX.out 1
  have x2 : w2.cell? ⟨w.heap.size, 2, none⟩ = some (.slice a7 g.nodes.length a9) := rowOf_cell HX.out 2
  have x3 : w2.cell? ⟨w.heap.size, 3, none⟩ = some (.slice a10 a11 a12) := rowOf_cell HX.out 3
  clear hb1 HB1 HF
  rcases hq with ⟨gg, gv, h1, rfl, hG, hroom⟩ | ⟨er, h1, h2, _, rfl⟩
  · have HO := Lib.hid (HBk.out _ h1)
    clear h1 HBk
    obtain ⟨p1, pn1, pc1, p2, pn2, pc2, p3, pn3, pc3, p4, pn4, pc4, rfl, pe1, pe2⟩ := hG.four
    clear pe1 pe2
    have HGG := Lib.hid hG
    clear hG
    have HBp := Lib.hid (balloc9 (o := (.cells #[.slice p1 pn1 pc1, .slice p2 pn2 pc2, .slice p3 pn3 pc3, .slice p4 pn4 pc4] 26)) HB2.out)
    have HX9 := HX.out
    clear HX x0 x1 x2 x3
    have HX := Lib.hid (rowOf_below HX9 ((Below.refl _ w2).alloc (Nat.le_refl _) (.cells #[.slice p1 pn1 pc1, .slice p2 pn2 pc2, .slice p3 pn3 pc3, .slice p4 pn4 pc4] 26)) (rowOf_lt HX9))
    clear HX9
    have x0 : (w2.alloc (.cells #[.slice p1 pn1 pc1, .slice p2 pn2 pc2, .slice p3 pn3 pc3, .slice p4 pn4 pc4] 26)).cell? ⟨w.heap.size, 0, none⟩ = some (.slice a1 g.parent.length a3) := rowOf_cell HX.out 0
    have x1 : (w2.alloc (.cells #[.slice p1 pn1 pc1, .slice p2 pn2 pc2, .slice p3 pn3 pc3, .slice p4 pn4 pc4] 26)).cell? ⟨w.heap.size, 1, none⟩ = some (.slice a4 a5 a6) := rowOf_cell HX.out 1
    have x2 : (w2.alloc (.cells #[.slice p1 pn1 pc1, .slice p2 pn2 pc2, .slice p3 pn3 pc3, .slice p4 pn4 pc4] 26)).cell? ⟨w.heap.size, 2, none⟩ = some (.slice a7 g.nodes.length a9) := rowOf_cell HX.out 2
    have x3 : (w2.alloc (.cells #[.slice p1 pn1 pc1, .slice p2 pn2 pc2, .slice p3 pn3 pc3, .slice p4 pn4 pc4] 26)).cell? ⟨w.heap.size, 3, none⟩ = some (.slice a10 a11 a12) := rowOf_cell HX.out 3
    clear HB2
    have y0 : (w2.alloc (.cells #[.slice p1 pn1 pc1, .slice p2 pn2 pc2, .slice p3 pn3 pc3, .slice p4 pn4 pc4] 26)).cell? ⟨w2.heap.size, 0, none⟩ = some (.slice p1 pn1 pc1) := rowOf_cell (row_new rfl) 0
    have y1 : (w2.alloc (.cells #[.slice p1 pn1 pc1, .slice p2 pn2 pc2, .slice p3 pn3 pc3, .slice p4 pn4 pc4] 26)).cell? ⟨w2.heap.size, 1, none⟩ = some (.slice p2 pn2 pc2) := rowOf_cell (row_new rfl) 1
    have y2 : (w2.alloc (.cells #[.slice p1 pn1 pc1, .slice p2 pn2 pc2, .slice p3 pn3 pc3, .slice p4 pn4 pc4] 26)).cell? ⟨w2.heap.size, 2, none⟩ = some (.slice p3 pn3 pc3) := rowOf_cell (row_new rfl) 2
    have y3 : (w2.alloc (.cells #[.slice p1 pn1 pc1, .slice p2 pn2 pc2, .slice p3 pn3 pc3, .slice p4 pn4 pc4] 26)).cell? ⟨w2.heap.size, 3, none⟩ = some (.slice p4 pn4 pc4) := rowOf_cell (row_new rfl) 3
    have HC := (pput_any gg _ _ (HGG.out.below ((Below.refl _ w2).alloc (Nat.le_refl _) (.cells #[.slice p1 pn1 pc1, .slice p2 pn2 pc2, .slice p3 pn3 pc3, .slice p4 pn4 pc4] 26))) hroom HO.out.2)
    rw [HO.out.1] at HC
    have HC := Lib.hid HC
    clear HGG HO hroom
    go_wp2_with fail
    refine (HC.out).mono ?_
    rintro ee w3 ⟨u0, rfl, hu, _, hb1⟩
    have HB3 := Lib.hid (HBp.out.trans (hb1.mono HBp.out.size))
    have HU0 := Lib.hid hu
    clear hu
    have HX9 := HX.out
    clear HX x0 x1 x2 x3
    have HX := Lib.hid (rowOf_below HX9 hb1 (rowOf_lt HX9))
    clear HX9
    have x0 : w3.cell? ⟨w.heap.size, 0, none⟩ = some (.slice a1 g.parent.length a3) := rowOf_cell HX.out 0
    have x1 : w3.cell? ⟨w.heap.size, 1, none⟩ = some (.slice a4 a5 a6) := rowOf_cell HX.out 1
    have x2 : w3.cell? ⟨w.heap.size, 2, none⟩ = some (.slice a7 g.nodes.length a9) := rowOf_cell HX.out 2
    have x3 : w3.cell? ⟨w.heap.size, 3, none⟩ = some (.slice a10 a11 a12) := rowOf_cell HX.out 3
    clear hb1 HBp
    clear y0 y1 y2 y3 HC
    have HC := Lib.hid (HSm.out u0 _ HB3.out HU0.out)
    clear HU0 HSm
    go_wp2_with fail
    refine (HC.out).mono ?_
    rintro ee w4 ⟨rfl, hb1⟩
    have HB4 := Lib.hid (HB3.out.trans (hb1.mono HB3.out.size))
    clear HC
    have HX9 := HX.out
    clear HX x0 x1 x2 x3
    have HX := Lib.hid (rowOf_below HX9 hb1 (rowOf_lt HX9))
    clear HX9
    have x0 : w4.cell? ⟨w.heap.size, 0, none⟩ = some (.slice a1 g.parent.length a3) := rowOf_cell HX.out 0
    have x1 : w4.cell? ⟨w.heap.size, 1, none⟩ = some (.slice a4 a5 a6) := rowOf_cell HX.out 1
    have x2 : w4.cell? ⟨w.heap.size, 2, none⟩ = some (.slice a7 g.nodes.length a9) := rowOf_cell HX.out 2
    have x3 : w4.cell? ⟨w.heap.size, 3, none⟩ = some (.slice a10 a11 a12) := rowOf_cell HX.out 3
    clear hb1 HB3
    go_wp2_with fail
    refine (HS1.out _ HB4.out).mono ?_
    rintro ee w5 ⟨rfl, hb1⟩
    have HB5 := Lib.hid (HB4.out.trans (hb1.mono HB4.out.size))
    have HX9 := HX.out
    clear HX x0 x1 x2 x3
    have HX := Lib.hid (rowOf_below HX9 hb1 (rowOf_lt HX9))
    clear HX9
    have x0 : w5.cell? ⟨w.heap.size, 0, none⟩ = some (.slice a1 g.parent.length a3) := rowOf_cell HX.out 0
    have x1 : w5.cell? ⟨w.heap.size, 1, none⟩ = some (.slice a4 a5 a6) := rowOf_cell HX.out 1
    have x2 : w5.cell? ⟨w.heap.size, 2, none⟩ = some (.slice a7 g.nodes.length a9) := rowOf_cell HX.out 2
    have x3 : w5.cell? ⟨w.heap.size, 3, none⟩ = some (.slice a10 a11 a12) := rowOf_cell HX.out 3
    clear hb1 HB4
    cases sg
    · clear HX
      go_wp2
      go_returns
      exact ⟨rfl, HB5.out⟩
    go_wp2_with fail
    refine (HP.out _ HB5.out).mono ?_
    rintro ee w6 ⟨u, rfl, hu, hcp, hb1⟩
    have HB6 := Lib.hid (HB5.out.trans (hb1.mono HB5.out.size))
    obtain ⟨up, uc, rfl⟩ := hu.slice
    have HU := Lib.hid hu
    have hcl : L.length ≤ uc := hcp _ _ _ rfl
    clear hu hcp
    have HX9 := HX.out
    clear HX x0 x1 x2 x3
    have HX := Lib.hid (rowOf_below HX9 hb1 (rowOf_lt HX9))
    clear HX9
    have x0 : w6.cell? ⟨w.heap.size, 0, none⟩ = some (.slice a1 g.parent.length a3) := rowOf_cell HX.out 0
    have x1 : w6.cell? ⟨w.heap.size, 1, none⟩ = some (.slice a4 a5 a6) := rowOf_cell HX.out 1
    have x2 : w6.cell? ⟨w.heap.size, 2, none⟩ = some (.slice a7 g.nodes.length a9) := rowOf_cell HX.out 2
    have x3 : w6.cell? ⟨w.heap.size, 3, none⟩ = some (.slice a10 a11 a12) := rowOf_cell HX.out 3
    clear hb1 HB5
    by_cases hk : k = 0
    · subst hk
      have HR := Lib.hid ((pread_any L up uc _ HU.out hcl HOk.out).mono fun e w' h => h.ans)
      rw [HRd.out rfl] at HR
      by_cases hL : 8192 < L.length
      · rw [if_pos hL] at HR
        have HR : Hid (Calls Try.prog 14 #[.slice up L.length uc] w6 (AnsP ((⟨[], [], [], []⟩ : GV), 11) w6)) := HR
        have hLz : (L.length : Int) > 8192 := by omega
        go_wp2_with fail
        refine (HR.out).mono ?_
        rintro ee w7 ⟨hv, rfl, hH, _, hb1⟩
        have HB7 := Lib.hid (HB6.out.trans (hb1.mono HB6.out.size))
        obtain ⟨q1, qn1, qc1, q2, qn2, qc2, q3, qn3, qc3, q4, qn4, qc4, rfl, qe1, qe2⟩ := hH.four
        clear qe1 qe2
        clear hH
        have HX9 := HX.out
        clear HX x0 x1 x2 x3
        have HX := Lib.hid (rowOf_below HX9 hb1 (rowOf_lt HX9))
        clear HX9
        have x0 : w7.cell? ⟨w.heap.size, 0, none⟩ = some (.slice a1 g.parent.length a3) := rowOf_cell HX.out 0
        have x1 : w7.cell? ⟨w.heap.size, 1, none⟩ = some (.slice a4 a5 a6) := rowOf_cell HX.out 1
        have x2 : w7.cell? ⟨w.heap.size, 2, none⟩ = some (.slice a7 g.nodes.length a9) := rowOf_cell HX.out 2
        have x3 : w7.cell? ⟨w.heap.size, 3, none⟩ = some (.slice a10 a11 a12) := rowOf_cell HX.out 3
        clear hb1 HB6
        have HBq := Lib.hid (balloc9 (o := (.cells #[.slice q1 qn1 qc1, .slice q2 qn2 qc2, .slice q3 qn3 qc3, .slice q4 qn4 qc4] 26)) HB7.out)
        have HX9 := HX.out
        clear HX x0 x1 x2 x3
        have HX := Lib.hid (rowOf_below HX9 ((Below.refl _ w7).alloc (Nat.le_refl _) (.cells #[.slice q1 qn1 qc1, .slice q2 qn2 qc2, .slice q3 qn3 qc3, .slice q4 qn4 qc4] 26)) (rowOf_lt HX9))
        clear HX9
        have x0 : (w7.alloc (.cells #[.slice q1 qn1 qc1, .slice q2 qn2 qc2, .slice q3 qn3 qc3, .slice q4 qn4 qc4] 26)).cell? ⟨w.heap.size, 0, none⟩ = some (.slice a1 g.parent.length a3) := rowOf_cell HX.out 0
        have x1 : (w7.alloc (.cells #[.slice q1 qn1 qc1, .slice q2 qn2 qc2, .slice q3 qn3 qc3, .slice q4 qn4 qc4] 26)).cell? ⟨w.heap.size, 1, none⟩ = some (.slice a4 a5 a6) := rowOf_cell HX.out 1
        have x2 : (w7.alloc (.cells #[.slice q1 qn1 qc1, .slice q2 qn2 qc2, .slice q3 qn3 qc3, .slice q4 qn4 qc4] 26)).cell? ⟨w.heap.size, 2, none⟩ = some (.slice a7 g.nodes.length a9) := rowOf_cell HX.out 2
        have x3 : (w7.alloc (.cells #[.slice q1 qn1 qc1, .slice q2 qn2 qc2, .slice q3 qn3 qc3, .slice q4 qn4 qc4] 26)).cell? ⟨w.heap.size, 3, none⟩ = some (.slice a10 a11 a12) := rowOf_cell HX.out 3
        clear HB7
        clear HRd HNo HOk HU HR hcl
        generalize L.length = n at *
        clear HX
        go_wp2
        go_returns
        exact ⟨rfl, HBq.out⟩
      · rw [if_neg hL] at HR
        have HR : Hid (Calls Try.prog 14 #[.slice up L.length uc] w6 (AnsP (g, 0) w6)) := HR
        have hLz : ¬ (L.length : Int) > 8192 := by omega
        go_wp2_with fail
        refine (HR.out).mono ?_
        rintro ee w7 ⟨hv, rfl, hH, _, hb1⟩
        have HB7 := Lib.hid (HB6.out.trans (hb1.mono HB6.out.size))
        obtain ⟨q1, qn1, qc1, q2, qn2, qc2, q3, qn3, qc3, q4, qn4, qc4, rfl, qe1, qe2⟩ := hH.four
        clear qe1 qe2
        have HH := Lib.hid hH
        clear hH
        have HX9 := HX.out
        clear HX x0 x1 x2 x3
        have HX := Lib.hid (rowOf_below HX9 hb1 (rowOf_lt HX9))
        clear HX9
        have x0 : w7.cell? ⟨w.heap.size, 0, none⟩ = some (.slice a1 g.parent.length a3) := rowOf_cell HX.out 0
        have x1 : w7.cell? ⟨w.heap.size, 1, none⟩ = some (.slice a4 a5 a6) := rowOf_cell HX.out 1
        have x2 : w7.cell? ⟨w.heap.size, 2, none⟩ = some (.slice a7 g.nodes.length a9) := rowOf_cell HX.out 2
        have x3 : w7.cell? ⟨w.heap.size, 3, none⟩ = some (.slice a10 a11 a12) := rowOf_cell HX.out 3
        clear hb1 HB6
        have HBq := Lib.hid (balloc9 (o := (.cells #[.slice q1 qn1 qc1, .slice q2 qn2 qc2, .slice q3 qn3 qc3, .slice q4 qn4 qc4] 26)) HB7.out)
        have HX9 := HX.out
        clear HX x0 x1 x2 x3
        have HX := Lib.hid (rowOf_below HX9 ((Below.refl _ w7).alloc (Nat.le_refl _) (.cells #[.slice q1 qn1 qc1, .slice q2 qn2 qc2, .slice q3 qn3 qc3, .slice q4 qn4 qc4] 26)) (rowOf_lt HX9))
        clear HX9
        have x0 : (w7.alloc (.cells #[.slice q1 qn1 qc1, .slice q2 qn2 qc2, .slice q3 qn3 qc3, .slice q4 qn4 qc4] 26)).cell? ⟨w.heap.size, 0, none⟩ = some (.slice a1 g.parent.length a3) := rowOf_cell HX.out 0
        have x1 : (w7.alloc (.cells #[.slice q1 qn1 qc1, .slice q2 qn2 qc2, .slice q3 qn3 qc3, .slice q4 qn4 qc4] 26)).cell? ⟨w.heap.size, 1, none⟩ = some (.slice a4 a5 a6) := rowOf_cell HX.out 1
        have x2 : (w7.alloc (.cells #[.slice q1 qn1 qc1, .slice q2 qn2 qc2, .slice q3 qn3 qc3, .slice q4 qn4 qc4] 26)).cell? ⟨w.heap.size, 2, none⟩ = some (.slice a7 g.nodes.length a9) := rowOf_cell HX.out 2
        have x3 : (w7.alloc (.cells #[.slice q1 qn1 qc1, .slice q2 qn2 qc2, .slice q3 qn3 qc3, .slice q4 qn4 qc4] 26)).cell? ⟨w.heap.size, 3, none⟩ = some (.slice a10 a11 a12) := rowOf_cell HX.out 3
        clear HB7
        have y0 : (w7.alloc (.cells #[.slice q1 qn1 qc1, .slice q2 qn2 qc2, .slice q3 qn3 qc3, .slice q4 qn4 qc4] 26)).cell? ⟨w7.heap.size, 0, none⟩ = some (.slice q1 qn1 qc1) := rowOf_cell (row_new rfl) 0
        have y1 : (w7.alloc (.cells #[.slice q1 qn1 qc1, .slice q2 qn2 qc2, .slice q3 qn3 qc3, .slice q4 qn4 qc4] 26)).cell? ⟨w7.heap.size, 1, none⟩ = some (.slice q2 qn2 qc2) := rowOf_cell (row_new rfl) 1
        have y2 : (w7.alloc (.cells #[.slice q1 qn1 qc1, .slice q2 qn2 qc2, .slice q3 qn3 qc3, .slice q4 qn4 qc4] 26)).cell? ⟨w7.heap.size, 2, none⟩ = some (.slice q3 qn3 qc3) := rowOf_cell (row_new rfl) 2
        have y3 : (w7.alloc (.cells #[.slice q1 qn1 qc1, .slice q2 qn2 qc2, .slice q3 qn3 qc3, .slice q4 qn4 qc4] 26)).cell? ⟨w7.heap.size, 3, none⟩ = some (.slice q4 qn4 qc4) := rowOf_cell (row_new rfl) 3
        have HT := Lib.hid (HT.out trivial _ _ HBq.out (HH.out.below ((Below.refl _ w7).alloc (Nat.le_refl _) (.cells #[.slice q1 qn1 qc1, .slice q2 qn2 qc2, .slice q3 qn3 qc3, .slice q4 qn4 qc4] 26))))
        clear HRd HNo HOk HU HR hcl HH
        generalize L.length = n at *
        go_wp2_with fail
        refine (HT.out).mono ?_
        rintro ee w9 ⟨rfl, hb1⟩
        have HB9 := Lib.hid (HBq.out.trans (hb1.mono HBq.out.size))
        clear hb1 HBq HT x0 x1 x2 x3 y0 y1 y2 y3 HX
        go_wp2
        go_returns
        exact ⟨rfl, HB9.out⟩
    · have hkb : ((k : Int) != 0) = true := by simp; omega
      obtain rfl : L = [] := HNo.out hk
      clear HU HRd
      clear HX
      go_wp2
      go_returns
      exact ⟨rfl, HB6.out⟩
  · have hz : ((er : Int) == 0) = false := by simp; omega
    clear h1 HBk HSm
    have HBp := Lib.hid (balloc9 (o := (.cells #[.slice none 0 0, .slice none 0 0, .slice none 0 0, .slice none 0 0] 26)) HB2.out)
    have HX9 := HX.out
    clear HX x0 x1 x2 x3
    have HX := Lib.hid (rowOf_below HX9 ((Below.refl _ w2).alloc (Nat.le_refl _) (.cells #[.slice none 0 0, .slice none 0 0, .slice none 0 0, .slice none 0 0] 26)) (rowOf_lt HX9))
    clear HX9
    have x0 : (w2.alloc (.cells #[.slice none 0 0, .slice none 0 0, .slice none 0 0, .slice none 0 0] 26)).cell? ⟨w.heap.size, 0, none⟩ = some (.slice a1 g.parent.length a3) := rowOf_cell HX.out 0
    have x1 : (w2.alloc (.cells #[.slice none 0 0, .slice none 0 0, .slice none 0 0, .slice none 0 0] 26)).cell? ⟨w.heap.size, 1, none⟩ = some (.slice a4 a5 a6) := rowOf_cell HX.out 1
    have x2 : (w2.alloc (.cells #[.slice none 0 0, .slice none 0 0, .slice none 0 0, .slice none 0 0] 26)).cell? ⟨w.heap.size, 2, none⟩ = some (.slice a7 g.nodes.length a9) := rowOf_cell HX.out 2
    have x3 : (w2.alloc (.cells #[.slice none 0 0, .slice none 0 0, .slice none 0 0, .slice none 0 0] 26)).cell? ⟨w.heap.size, 3, none⟩ = some (.slice a10 a11 a12) := rowOf_cell HX.out 3
    clear HB2
    go_wp2_with fail
    refine (HS1.out _ HBp.out).mono ?_
    rintro ee w3 ⟨rfl, hb1⟩
    have HB3 := Lib.hid (HBp.out.trans (hb1.mono HBp.out.size))
    have HX9 := HX.out
    clear HX x0 x1 x2 x3
    have HX := Lib.hid (rowOf_below HX9 hb1 (rowOf_lt HX9))
    clear HX9
    have x0 : w3.cell? ⟨w.heap.size, 0, none⟩ = some (.slice a1 g.parent.length a3) := rowOf_cell HX.out 0
    have x1 : w3.cell? ⟨w.heap.size, 1, none⟩ = some (.slice a4 a5 a6) := rowOf_cell HX.out 1
    have x2 : w3.cell? ⟨w.heap.size, 2, none⟩ = some (.slice a7 g.nodes.length a9) := rowOf_cell HX.out 2
    have x3 : w3.cell? ⟨w.heap.size, 3, none⟩ = some (.slice a10 a11 a12) := rowOf_cell HX.out 3
    clear hb1 HBp
    cases sg
    · clear HX
      go_wp2
      go_returns
      exact ⟨rfl, HB3.out⟩
    go_wp2_with fail
    refine (HP.out _ HB3.out).mono ?_
    rintro ee w4 ⟨u, rfl, hu, hcp, hb1⟩
    have HB4 := Lib.hid (HB3.out.trans (hb1.mono HB3.out.size))
    obtain ⟨up, uc, rfl⟩ := hu.slice
    have HU := Lib.hid hu
    have hcl : L.length ≤ uc := hcp _ _ _ rfl
    clear hu hcp
    have HX9 := HX.out
    clear HX x0 x1 x2 x3
    have HX := Lib.hid (rowOf_below HX9 hb1 (rowOf_lt HX9))
    clear HX9
    have x0 : w4.cell? ⟨w.heap.size, 0, none⟩ = some (.slice a1 g.parent.length a3) := rowOf_cell HX.out 0
    have x1 : w4.cell? ⟨w.heap.size, 1, none⟩ = some (.slice a4 a5 a6) := rowOf_cell HX.out 1
    have x2 : w4.cell? ⟨w.heap.size, 2, none⟩ = some (.slice a7 g.nodes.length a9) := rowOf_cell HX.out 2
    have x3 : w4.cell? ⟨w.heap.size, 3, none⟩ = some (.slice a10 a11 a12) := rowOf_cell HX.out 3
    clear hb1 HB3
    by_cases hk : k = 0
    · subst hk
      have HR := Lib.hid ((pread_any L up uc _ HU.out hcl HOk.out).mono fun e w' h => h.ans)
      rw [HRd.out rfl] at HR
      by_cases hL : 8192 < L.length
      · rw [if_pos hL] at HR
        have HR : Hid (Calls Try.prog 14 #[.slice up L.length uc] w4 (AnsP ((⟨[], [], [], []⟩ : GV), 11) w4)) := HR
        have hLz : (L.length : Int) > 8192 := by omega
        go_wp2_with fail
        refine (HR.out).mono ?_
        rintro ee w5 ⟨hv, rfl, hH, _, hb1⟩
        have HB5 := Lib.hid (HB4.out.trans (hb1.mono HB4.out.size))
        obtain ⟨q1, qn1, qc1, q2, qn2, qc2, q3, qn3, qc3, q4, qn4, qc4, rfl, qe1, qe2⟩ := hH.four
        clear qe1 qe2
        clear hH
        have HX9 := HX.out
        clear HX x0 x1 x2 x3
        have HX := Lib.hid (rowOf_below HX9 hb1 (rowOf_lt HX9))
        clear HX9
        have x0 : w5.cell? ⟨w.heap.size, 0, none⟩ = some (.slice a1 g.parent.length a3) := rowOf_cell HX.out 0
        have x1 : w5.cell? ⟨w.heap.size, 1, none⟩ = some (.slice a4 a5 a6) := rowOf_cell HX.out 1
        have x2 : w5.cell? ⟨w.heap.size, 2, none⟩ = some (.slice a7 g.nodes.length a9) := rowOf_cell HX.out 2
        have x3 : w5.cell? ⟨w.heap.size, 3, none⟩ = some (.slice a10 a11 a12) := rowOf_cell HX.out 3
        clear hb1 HB4
        have HBq := Lib.hid (balloc9 (o := (.cells #[.slice q1 qn1 qc1, .slice q2 qn2 qc2, .slice q3 qn3 qc3, .slice q4 qn4 qc4] 26)) HB5.out)
        have HX9 := HX.out
        clear HX x0 x1 x2 x3
        have HX := Lib.hid (rowOf_below HX9 ((Below.refl _ w5).alloc (Nat.le_refl _) (.cells #[.slice q1 qn1 qc1, .slice q2 qn2 qc2, .slice q3 qn3 qc3, .slice q4 qn4 qc4] 26)) (rowOf_lt HX9))
        clear HX9
        have x0 : (w5.alloc (.cells #[.slice q1 qn1 qc1, .slice q2 qn2 qc2, .slice q3 qn3 qc3, .slice q4 qn4 qc4] 26)).cell? ⟨w.heap.size, 0, none⟩ = some (.slice a1 g.parent.length a3) := rowOf_cell HX.out 0
        have x1 : (w5.alloc (.cells #[.slice q1 qn1 qc1, .slice q2 qn2 qc2, .slice q3 qn3 qc3, .slice q4 qn4 qc4] 26)).cell? ⟨w.heap.size, 1, none⟩ = some (.slice a4 a5 a6) := rowOf_cell HX.out 1
        have x2 : (w5.alloc (.cells #[.slice q1 qn1 qc1, .slice q2 qn2 qc2, .slice q3 qn3 qc3, .slice q4 qn4 qc4] 26)).cell? ⟨w.heap.size, 2, none⟩ = some (.slice a7 g.nodes.length a9) := rowOf_cell HX.out 2
        have x3 : (w5.alloc (.cells #[.slice q1 qn1 qc1, .slice q2 qn2 qc2, .slice q3 qn3 qc3, .slice q4 qn4 qc4] 26)).cell? ⟨w.heap.size, 3, none⟩ = some (.slice a10 a11 a12) := rowOf_cell HX.out 3
        clear HB5
        clear HRd HNo HOk HU HR hcl
        generalize L.length = n at *
        clear HX
        go_wp2
        go_returns
        exact ⟨rfl, HBq.out⟩
      · rw [if_neg hL] at HR
        have HR : Hid (Calls Try.prog 14 #[.slice up L.length uc] w4 (AnsP (g, 0) w4)) := HR
        have hLz : ¬ (L.length : Int) > 8192 := by omega
        go_wp2_with fail
        refine (HR.out).mono ?_
        rintro ee w5 ⟨hv, rfl, hH, _, hb1⟩
        have HB5 := Lib.hid (HB4.out.trans (hb1.mono HB4.out.size))
        obtain ⟨q1, qn1, qc1, q2, qn2, qc2, q3, qn3, qc3, q4, qn4, qc4, rfl, qe1, qe2⟩ := hH.four
        clear qe1 qe2
        have HH := Lib.hid hH
        clear hH
        have HX9 := HX.out
        clear HX x0 x1 x2 x3
        have HX := Lib.hid (rowOf_below HX9 hb1 (rowOf_lt HX9))
        clear HX9
        have x0 : w5.cell? ⟨w.heap.size, 0, none⟩ = some (.slice a1 g.parent.length a3) := rowOf_cell HX.out 0
        have x1 : w5.cell? ⟨w.heap.size, 1, none⟩ = some (.slice a4 a5 a6) := rowOf_cell HX.out 1
        have x2 : w5.cell? ⟨w.heap.size, 2, none⟩ = some (.slice a7 g.nodes.length a9) := rowOf_cell HX.out 2
        have x3 : w5.cell? ⟨w.heap.size, 3, none⟩ = some (.slice a10 a11 a12) := rowOf_cell HX.out 3
        clear hb1 HB4
        have HBq := Lib.hid (balloc9 (o := (.cells #[.slice q1 qn1 qc1, .slice q2 qn2 qc2, .slice q3 qn3 qc3, .slice q4 qn4 qc4] 26)) HB5.out)
        have HX9 := HX.out
        clear HX x0 x1 x2 x3
        have HX := Lib.hid (rowOf_below HX9 ((Below.refl _ w5).alloc (Nat.le_refl _) (.cells #[.slice q1 qn1 qc1, .slice q2 qn2 qc2, .slice q3 qn3 qc3, .slice q4 qn4 qc4] 26)) (rowOf_lt HX9))
        clear HX9
        have x0 : (w5.alloc (.cells #[.slice q1 qn1 qc1, .slice q2 qn2 qc2, .slice q3 qn3 qc3, .slice q4 qn4 qc4] 26)).cell? ⟨w.heap.size, 0, none⟩ = some (.slice a1 g.parent.length a3) := rowOf_cell HX.out 0
        have x1 : (w5.alloc (.cells #[.slice q1 qn1 qc1, .slice q2 qn2 qc2, .slice q3 qn3 qc3, .slice q4 qn4 qc4] 26)).cell? ⟨w.heap.size, 1, none⟩ = some (.slice a4 a5 a6) := rowOf_cell HX.out 1
        have x2 : (w5.alloc (.cells #[.slice q1 qn1 qc1, .slice q2 qn2 qc2, .slice q3 qn3 qc3, .slice q4 qn4 qc4] 26)).cell? ⟨w.heap.size, 2, none⟩ = some (.slice a7 g.nodes.length a9) := rowOf_cell HX.out 2
        have x3 : (w5.alloc (.cells #[.slice q1 qn1 qc1, .slice q2 qn2 qc2, .slice q3 qn3 qc3, .slice q4 qn4 qc4] 26)).cell? ⟨w.heap.size, 3, none⟩ = some (.slice a10 a11 a12) := rowOf_cell HX.out 3
        clear HB5
        have y0 : (w5.alloc (.cells #[.slice q1 qn1 qc1, .slice q2 qn2 qc2, .slice q3 qn3 qc3, .slice q4 qn4 qc4] 26)).cell? ⟨w5.heap.size, 0, none⟩ = some (.slice q1 qn1 qc1) := rowOf_cell (row_new rfl) 0
        have y1 : (w5.alloc (.cells #[.slice q1 qn1 qc1, .slice q2 qn2 qc2, .slice q3 qn3 qc3, .slice q4 qn4 qc4] 26)).cell? ⟨w5.heap.size, 1, none⟩ = some (.slice q2 qn2 qc2) := rowOf_cell (row_new rfl) 1
        have y2 : (w5.alloc (.cells #[.slice q1 qn1 qc1, .slice q2 qn2 qc2, .slice q3 qn3 qc3, .slice q4 qn4 qc4] 26)).cell? ⟨w5.heap.size, 2, none⟩ = some (.slice q3 qn3 qc3) := rowOf_cell (row_new rfl) 2
        have y3 : (w5.alloc (.cells #[.slice q1 qn1 qc1, .slice q2 qn2 qc2, .slice q3 qn3 qc3, .slice q4 qn4 qc4] 26)).cell? ⟨w5.heap.size, 3, none⟩ = some (.slice q4 qn4 qc4) := rowOf_cell (row_new rfl) 3
        have HT := Lib.hid (HT.out trivial _ _ HBq.out (HH.out.below ((Below.refl _ w5).alloc (Nat.le_refl _) (.cells #[.slice q1 qn1 qc1, .slice q2 qn2 qc2, .slice q3 qn3 qc3, .slice q4 qn4 qc4] 26))))
        clear HRd HNo HOk HU HR hcl HH
        generalize L.length = n at *
        go_wp2_with fail
        refine (HT.out).mono ?_
        rintro ee w9 ⟨rfl, hb1⟩
        have HB9 := Lib.hid (HBq.out.trans (hb1.mono HBq.out.size))
        clear hb1 HBq HT x0 x1 x2 x3 y0 y1 y2 y3 HX
        go_wp2
        go_returns
        exact ⟨rfl, HB9.out⟩
    · have hkb : ((k : Int) != 0) = true := by simp; omega
      obtain rfl : L = [] := HNo.out hk
      clear HU HRd
      clear HX
      go_wp2
      go_returns
      exact ⟨rfl, HB4.out⟩
end Go.Proofs.Ytdhmoiiagplbpaa
