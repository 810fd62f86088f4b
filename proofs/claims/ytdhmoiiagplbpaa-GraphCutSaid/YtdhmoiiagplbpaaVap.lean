/- the law GraphCut -/
import Derived.Test.YtdhmoiiagplbpaaVar
namespace Go.Proofs.Ytdhmoiiagplbpaa
open Go.RowKit
set_option linter.unusedVariables false
set_option linter.unusedSimpArgs false

theorem putA_facts (g : GV) (ok : okG g) : okB (putA g).1 ∧ ((putA g).2 = 0 → (putA g).1.length < 8192 → (∀ j, j < (putA g).1.length → readG ((putA g).1.take j) = .error 3) ∧ ∀ m, readG ((putA g).1 ++ [m]) = .error 4) := by
  unfold putA
  split
  · rename_i hf
    exact ⟨putG_ok hf ok, fun _ hl => ⟨fun j hj => cut_back hf ok hl hj, fun m => more_back hf ok hl m⟩⟩
  · exact ⟨(fun x hx => by cases hx), (fun h => by cases h)⟩
theorem cut_is {w : World} {p : Option Addr} {c : Nat} {L : List Int} (h : RB.Is w (.slice p L.length c) L) (j : Nat) (hj : j < L.length) : RB.Is w (.slice p (L.take j).length c) (L.take j) := by
  have e : (L.take j).length = j := by rw [List.length_take]; omega
  rw [e]
  rcases h with ⟨rfl, _⟩ | ⟨hne, b, off, c', e2, hb, hr⟩
  · simp at hj
  · simp only [Value.slice.injEq] at e2
    obtain ⟨rfl, _, rfl⟩ := e2
    by_cases h0 : j = 0
    · subst h0
      exact .inl ⟨rfl, _, c, rfl, fun q => by cases q⟩
    · refine .inr ⟨fun q => h0 (by rw [← e, q]; rfl), b, off, c, by rw [e], hb, fun i hi k u hu => ?_⟩
      rw [e] at hi
      have : (L.take j)[i]! = L[i]! := by rw [getElem!_pos _ i (by rw [e]; exact hi), getElem!_pos L i (by omega), List.getElem_take]
      rw [this] at hu
      exact hr i (by omega) k u hu
set_option maxRecDepth 100000 in
set_option maxHeartbeats 8000000 in
theorem graphCut_walk (g : GV) (at' m : Int) (m0 : 0 ≤ m) (m1 : m ≤ 255) (va : Value) (w : World) (ha : IsG w va g) (ca : roomG va) (oa : okG g) :
    Calls Try.prog 6 #[va, .int .i64 at', .int .u8 m] w (Ret (.bool true) w) := by
  have HAW := Lib.hid (fun W => awake_any W)
  have HS1 := Lib.hid (fun W (hW : Below w.heap.size w W) => rshort_any g va W (ha.below hW))
  have HP := Lib.hid (fun W (hW : Below w.heap.size w W) => pput_any g va W (ha.below hW) ca oa)
  have hfa := putA_facts g oa
  obtain ⟨a1, a2, a3, a4, a5, a6, a7, a8, a9, a10, a11, a12, rfl, rfl, rfl⟩ := ha.four
  clear ha ca oa
  generalize putA g = r at *
  obtain ⟨L, k⟩ := r
  generalize shortG g = sg at *
  have HFa := Lib.hid hfa
  clear hfa
  have HB0 := Lib.hid (balloc9 (o := (.cells #[.slice a1 g.parent.length a3, .slice a4 a5 a6, .slice a7 g.nodes.length a9, .slice a10 a11 a12] 26)) (Below.refl w.heap.size w))
  have HX : Hid (rowOf (w.alloc (.cells #[.slice a1 g.parent.length a3, .slice a4 a5 a6, .slice a7 g.nodes.length a9, .slice a10 a11 a12] 26)) w.heap.size = some #[.slice a1 g.parent.length a3, .slice a4 a5 a6, .slice a7 g.nodes.length a9, .slice a10 a11 a12]) := row_new rfl
  have x0 : (w.alloc (.cells #[.slice a1 g.parent.length a3, .slice a4 a5 a6, .slice a7 g.nodes.length a9, .slice a10 a11 a12] 26)).cell? ⟨w.heap.size, 0, none⟩ = some (.slice a1 g.parent.length a3) := rowOf_cell HX.out 0
  have x1 : (w.alloc (.cells #[.slice a1 g.parent.length a3, .slice a4 a5 a6, .slice a7 g.nodes.length a9, .slice a10 a11 a12] 26)).cell? ⟨w.heap.size, 1, none⟩ = some (.slice a4 a5 a6) := rowOf_cell HX.out 1
  have x2 : (w.alloc (.cells #[.slice a1 g.parent.length a3, .slice a4 a5 a6, .slice a7 g.nodes.length a9, .slice a10 a11 a12] 26)).cell? ⟨w.heap.size, 2, none⟩ = some (.slice a7 g.nodes.length a9) := rowOf_cell HX.out 2
  have x3 : (w.alloc (.cells #[.slice a1 g.parent.length a3, .slice a4 a5 a6, .slice a7 g.nodes.length a9, .slice a10 a11 a12] 26)).cell? ⟨w.heap.size, 3, none⟩ = some (.slice a10 a11 a12) := rowOf_cell HX.out 3
  go_enter Try.func6, Try.ntmps6
  go_wp2_with fail
  refine (HAW.out _).mono ?_
  rintro ee w1 ⟨rfl, hb1⟩
  have HB1 := Lib.hid (HB0.out.trans (hb1.mono HB0.out.size))
  have HX9 := HX.out
  clear HX x0 x1 x2 x3
  have HX := Lib.hid (rowOf_below HX9 hb1 (rowOf_lt HX9))
  clear hb1 HX9
  have x0 : w1.cell? ⟨w.heap.size, 0, none⟩ = some (.slice a1 g.parent.length a3) := rowOf_cell HX.out 0
  have x1 : w1.cell? ⟨w.heap.size, 1, none⟩ = some (.slice a4 a5 a6) := rowOf_cell HX.out 1
  have x2 : w1.cell? ⟨w.heap.size, 2, none⟩ = some (.slice a7 g.nodes.length a9) := rowOf_cell HX.out 2
  have x3 : w1.cell? ⟨w.heap.size, 3, none⟩ = some (.slice a10 a11 a12) := rowOf_cell HX.out 3
  go_wp2_with fail
  refine (HS1.out _ HB1.out).mono ?_
  rintro ee w2 ⟨rfl, hb1⟩
  have HB2 := Lib.hid (HB1.out.trans (hb1.mono HB1.out.size))
  have HX9 := HX.out
  clear HX x0 x1 x2 x3
  have HX := Lib.hid (rowOf_below HX9 hb1 (rowOf_lt HX9))
  clear hb1 HX9
  clear HB0
  have x0 : w2.cell? ⟨w.heap.size, 0, none⟩ = some (.slice a1 g.parent.length a3) := rowOf_cell HX.out 0
  have x1 : w2.cell? ⟨w.heap.size, 1, none⟩ = some (.slice a4 a5 a6) := rowOf_cell HX.out 1
  have x2 : w2.cell? ⟨w.heap.size, 2, none⟩ = some (.slice a7 g.nodes.length a9) := rowOf_cell HX.out 2
  have x3 : w2.cell? ⟨w.heap.size, 3, none⟩ = some (.slice a10 a11 a12) := rowOf_cell HX.out 3
  cases sg
  · clear HX HB1
    go_wp2
    go_returns
    exact ⟨rfl, HB2.out⟩
  go_wp2_with fail
  refine (HP.out _ HB2.out).mono ?_
  rintro ee w3 ⟨u, rfl, hu, hcp, hb1⟩
  have HB3 := Lib.hid (HB2.out.trans (hb1.mono HB2.out.size))
  have HX9 := HX.out
  clear HX x0 x1 x2 x3
  have HX := Lib.hid (rowOf_below HX9 hb1 (rowOf_lt HX9))
  obtain ⟨p, c, rfl⟩ := hu.slice
  have HU := Lib.hid hu
  have hcl : L.length ≤ c := hcp _ _ _ rfl
  clear hu hcp
  clear hb1 HX9
  clear HB1
  clear HX
  have HFa1 := HFa.out.1
  have hfa := HFa.out.2
  by_cases hk : k = 0
  · subst hk
    have hfa := hfa rfl
    by_cases hl : L.length < 8192
    · obtain ⟨hcu, hmo⟩ := hfa hl
      by_cases ha0 : at' < 0
      · clear hcu hmo HU
        generalize L.length = n at *
        have hl0 : ¬ (n : Int) ≥ 8192 := by omega
        go_wp2
        go_returns
        exact ⟨rfl, HB3.out⟩
      · obtain ⟨j, rfl⟩ := Int.eq_ofNat_of_zero_le (show 0 ≤ at' by omega)
        by_cases hj : j < L.length
        · have HC := (pread_any (L.take j) p c w3 (cut_is HU.out j hj) (by rw [List.length_take]; omega) (fun x hx => HFa1 x (List.mem_of_mem_take hx))).mono fun e w' h => h.ans
          rw [hcu j hj, show (L.take j).length = j by rw [List.length_take]; omega] at HC
          have HC : Calls Try.prog 14 #[.slice p j c] w3 (AnsP ((⟨[], [], [], []⟩ : GV), 3) w3) := HC
          have HC := Lib.hid HC
          have HMo := Lib.hid hmo
          have HOk := Lib.hid HFa1
          have hl0 : ¬ (L.length : Int) ≥ 8192 := by omega
          have hj0 : ¬ (j : Int) ≥ (L.length : Int) := by omega
          have hj1 : ¬ (j : Int) < 0 := by omega
          have hj2 : (j : Int) ≤ (c : Int) := by omega
          have hjn : Int.toNat (j : Int) = j := rfl
          clear hcu hmo HFa1 hfa HFa
          have HCl := Lib.hid hcl
          clear hcl
          go_wp2_with fail
          refine (HC.out).mono ?_
          rintro ee w4 ⟨gv, rfl, hG, _, hb4⟩
          obtain ⟨s1, m2, t1, s2, m3, t2, s3, m4, t3, s4, m5, t4, rfl, e1, e2⟩ := hG.four
          obtain rfl : m2 = 0 := e1
          obtain rfl : m4 = 0 := e2
          have HB4 := Lib.hid (HB3.out.trans (hb4.mono HB3.out.size))
          have HU4 := Lib.hid (HU.out.below hb4)
          have hne : L ≠ [] := fun q => by rw [q] at hj; simp at hj
          obtain ⟨b, off, rfl, hbl, hrow⟩ : ∃ b off, p = some ⟨b, off, none⟩ ∧ b < w4.heap.size ∧ RB.Row w4 b off L := by
            rcases HU4.out with ⟨q, _⟩ | ⟨_, b, off, c', e, h1, h2⟩
            · exact absurd q hne
            · simp only [Value.slice.injEq] at e
              obtain ⟨rfl, _, _⟩ := e
              exact ⟨b, off, rfl, h1, h2⟩
          have hbe : Below w4.heap.size w4 ((w4.alloc (.cells #[.slice s1 0 t1, .slice s2 m3 t2, .slice s3 0 t3, .slice s4 m5 t4] 26)).alloc (.cells #[] 5)) := ((Below.refl _ w4).alloc (Nat.le_refl _) _).alloc (by simp) _
          have HRe := Lib.hid (hrow.below hbe hbl)
          have HE := Lib.hid (CA.init HB4.out (.slice s1 0 t1) (.slice s2 m3 t2) (.slice s3 0 t3) (.slice s4 m5 t4))
          have HMr := Lib.hid (HMo.out m)
          have HOkm : Hid (okB (L ++ [m])) := fun x hx => by
            rcases List.mem_append.1 hx with hx | hx
            · exact HOk.out x hx
            · rw [List.mem_singleton.1 hx]; exact ⟨m0, by omega⟩
          have hl5 : L.length ≤ 900000 := by omega
          clear hG hb4 HU HC HB3 hj0 hj1 hj2 hjn ha0 hrow hbe HU4 HMo HOk hne HAW HS1 hfa HCl HB2 hbl HB4
          go_upto_region 9 with (fail)
          go_wp2_with (first
            | (at_builtin; refine RowKind.Own.appendB (R := RB) (w := w5.alloc (.cells #[.int .u8 m] 5)) rfl _ _ rfl (H5.out.alloc (.cells #[.int .u8 m] 5)).own rfl [m] rfl (RowKind.Row.app (ys := [m]) (RowKind.Row.new (R := RB) w5 m 5)) (by rw [List.length_singleton]; omega) (H5.out.alloc (.cells #[.int .u8 m] 5)).size ?_; intro v6 w6 hO6 hg6 hs6; have H6 := Lib.hid ((H5.out.alloc (.cells #[.int .u8 m] 5)).app hO6 hg6 hs6); clear hO6 hg6 hs6; obtain ⟨p6, c6, rfl⟩ := H6.out.own.is.slice)
            | (at_builtin; refine RowKind.Own.appendB (R := RB) (w := ((w4.alloc (.cells #[.slice s1 0 t1, .slice s2 m3 t2, .slice s3 0 t3, .slice s4 m5 t4] 26)).alloc (.cells #[] 5))) rfl _ _ rfl HE.out.own rfl L rfl (RowKind.Row.app HRe.out) (by rw [List.length_nil]; omega) HE.out.size ?_; intro v5 w5 hO5 hg5 hs5; rw [List.nil_append] at hO5; have H5 := Lib.hid (HE.out.app hO5 hg5 hs5); clear hO5 hg5 hs5))
          have hc6 : (L ++ [m]).length ≤ c6 := OwnF.cap (.inl H6.out.own) _ _ _ rfl
          have HR := (pread_any (L ++ [m]) p6 c6 w6 H6.out.own.is hc6 HOkm.out).mono fun e w' h => h.ans
          rw [HMr.out, show (L ++ [m]).length = L.length + 1 by simp] at HR
          have HR : Calls Try.prog 14 #[.slice p6 (L.length + 1) c6] w6 (AnsP ((⟨[], [], [], []⟩ : GV), 4) w6) := HR
          have HR := Lib.hid HR
          clear hc6 HOkm HMr HRe HE
          refine (HR.out).mono ?_
          rintro ee w7 ⟨gv2, rfl, hG2, _, hb7⟩
          obtain ⟨y1, u1, z1, y2, u2, z2, y3, u3, z3, y4, u4, z4, rfl, hu1, hu3⟩ := hG2.four
          clear hu1 hu3
          have hrx := rowOf_below H6.out.row hb7 (rowOf_lt H6.out.row)
          have hry := rowOf_below hrx ((Below.refl _ w7).alloc (Nat.le_refl _) (.cells #[.slice y1 u1 z1, .slice y2 u2 z2, .slice y3 u3 z3, .slice y4 u4 z4] 26)) (rowOf_lt hrx)
          have x0 : (w7.alloc (.cells #[.slice y1 u1 z1, .slice y2 u2 z2, .slice y3 u3 z3, .slice y4 u4 z4] 26)).cell? ⟨w4.heap.size, 0, none⟩ = some (.slice s1 0 t1) := rowOf_cell hry 0
          have HB7 := Lib.hid (balloc9 (o := (.cells #[.slice y1 u1 z1, .slice y2 u2 z2, .slice y3 u3 z3, .slice y4 u4 z4] 26)) (H6.out.below.trans (hb7.mono H6.out.size)))
          clear hrx hry hb7 H6 HR hG2
          go_wp2
          go_returns
          exact ⟨rfl, HB7.out⟩
        · clear hcu hmo HU
          generalize L.length = n at *
          have hl0 : ¬ (n : Int) ≥ 8192 := by omega
          have hj0 : (j : Int) ≥ (n : Int) := by omega
          have hj1 : ¬ (j : Int) < 0 := by omega
          go_wp2
          go_returns
          exact ⟨rfl, HB3.out⟩
    · clear hfa HU
      generalize L.length = n at *
      have hl0 : (n : Int) ≥ 8192 := by omega
      go_wp2
      go_returns
      exact ⟨rfl, HB3.out⟩
  · have hkb : ((k : Int) != 0) = true := by simp; omega
    clear hfa HU
    go_wp2
    go_returns
    exact ⟨rfl, HB3.out⟩
end Go.Proofs.Ytdhmoiiagplbpaa
