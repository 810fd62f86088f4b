/- the law GraphReads -/
import Derived.Test.YtdhmoiiagplbpaaVrr
import Derived.Test.YtdhmoiiagplbpaaWs
namespace Go.Proofs.Ytdhmoiiagplbpaa
open Go.RowKit
set_option linter.unusedVariables false
set_option linter.unusedSimpArgs false
attribute [local go_sem ↓] run_imin

set_option maxRecDepth 100000 in
set_option maxHeartbeats 8000000 in
theorem graphReads_walk (xs : List Int) (va : Value) (w : World) (ha : RB.Is w va xs) (ca : capOk va) (hn : okB xs) :
    Calls Try.prog 4 #[va] w (Ret (.bool true) w) := by
  obtain ⟨p1, c1, rfl⟩ := ha.slice
  have k1 := ca _ _ _ rfl
  clear ca
  have hnt := fun m => show okB (xs.take m) from fun x hx => hn x (List.mem_of_mem_take hx)
  clear hn
  have hlen := fun m (h : m ≤ xs.length) => show (xs.take m).length = m from by rw [List.length_take]; omega
  generalize xs.length = n1 at *
  have HA := Lib.hid ha
  clear ha
  obtain ⟨m1, e1, l1, h1, z1⟩ := cutTo 9000 n1 (by decide)
  have e1 : imin (n1 : Int) 9000 = (m1 : Int) := e1
  have d1 : m1 ≤ c1 := by omega
  have HA2 := Lib.hid (HA.out.cut m1 l1 z1)
  have hF := hnt m1
  have HF := Lib.hid hF
  have hl := hlen m1 l1
  clear l1 z1 HA k1 hnt hF hlen
  generalize xs.take m1 = F at *
  subst hl
  have hsh := ans_short HF.out
  have HR := Lib.hid (fun W (hW : Below w.heap.size w W) => (pread_any F p1 c1 W (HA2.out.below hW) d1 HF.out).mono fun e w' h => h.ans)
  have HS := Lib.hid (fun W (hW : Below w.heap.size w W) => (rread_any F p1 c1 W (HA2.out.below hW) d1 HF.out).mono fun e w' h => h.ans)
  clear HA2 HF
  generalize ansG (readG F) = r at *
  obtain ⟨g, e⟩ := r
  have HSh := Lib.hid hsh
  have b3 : ((e : Int) == (e : Int)) = true := by simp
  have HAW := Lib.hid (fun W => awake_any W)
  clear hsh
  go_enter Try.func4, Try.ntmps4
  go_wp2_with fail
  refine (HAW.out _).mono ?_
  rintro ee w1 ⟨rfl, hb1⟩
  have HB1 := Lib.hid hb1
  clear hb1 HAW
  go_wp2_with fail
  refine (HR.out _ HB1.out).mono ?_
  rintro ee w2 ⟨gv, rfl, hG, _, hb2⟩
  have HB2 := Lib.hid (HB1.out.trans (hb2.mono HB1.out.size))
  have HG := Lib.hid hG
  obtain ⟨q1, n1, k1, q2, n2, k2, q3, n3, k3, q4, n4, k4, rfl, rfl, rfl⟩ := hG.four
  clear hb2 hG HR
  have HX2 : Hid (rowOf (w2.alloc (.cells #[.slice q1 g.parent.length k1, .slice q2 n2 k2, .slice q3 g.nodes.length k3, .slice q4 n4 k4] 26)) w2.heap.size = some #[.slice q1 g.parent.length k1, .slice q2 n2 k2, .slice q3 g.nodes.length k3, .slice q4 n4 k4]) := row_new rfl
  have HB3 := Lib.hid (balloc9 (o := (.cells #[.slice q1 g.parent.length k1, .slice q2 n2 k2, .slice q3 g.nodes.length k3, .slice q4 n4 k4] 26)) HB2.out)
  have HC := Lib.hid (HS.out _ HB3.out)
  clear HS HB1
  go_wp2_with fail
  refine (HC.out).mono ?_
  rintro ee w3 ⟨hv, rfl, hH, hb3⟩
  have hrow := rowOf_below HX2.out hb3 (rowOf_lt HX2.out)
  have hl3 : w2.heap.size < w3.heap.size := rowOf_lt hrow
  have HB4 := Lib.hid (HB3.out.trans (hb3.mono HB3.out.size))
  have hG3 := HG.out.below (((Below.refl _ w2).alloc (Nat.le_refl _) (.cells #[.slice q1 g.parent.length k1, .slice q2 n2 k2, .slice q3 g.nodes.length k3, .slice q4 n4 k4] 26)).trans (hb3.mono (by simp)))
  obtain ⟨s1, m1, t1, s2, m2, t2, s3, m3, t3, s4, m4, t4, rfl, rfl, rfl⟩ := hH.four
  have hbA : Below w3.heap.size w3 (w3.alloc (.cells #[.slice s1 g.parent.length t1, .slice s2 m2 t2, .slice s3 g.nodes.length t3, .slice s4 m4 t4] 26)) := (Below.refl _ w3).alloc (Nat.le_refl _) _
  have hrowA := rowOf_below hrow hbA hl3
  have x0 : (w3.alloc (.cells #[.slice s1 g.parent.length t1, .slice s2 m2 t2, .slice s3 g.nodes.length t3, .slice s4 m4 t4] 26)).cell? ⟨w2.heap.size, 0, none⟩ = some (.slice q1 g.parent.length k1) := rowOf_cell hrowA 0
  have x1 : (w3.alloc (.cells #[.slice s1 g.parent.length t1, .slice s2 m2 t2, .slice s3 g.nodes.length t3, .slice s4 m4 t4] 26)).cell? ⟨w2.heap.size, 1, none⟩ = some (.slice q2 n2 k2) := rowOf_cell hrowA 1
  have x2 : (w3.alloc (.cells #[.slice s1 g.parent.length t1, .slice s2 m2 t2, .slice s3 g.nodes.length t3, .slice s4 m4 t4] 26)).cell? ⟨w2.heap.size, 2, none⟩ = some (.slice q3 g.nodes.length k3) := rowOf_cell hrowA 2
  have x3 : (w3.alloc (.cells #[.slice s1 g.parent.length t1, .slice s2 m2 t2, .slice s3 g.nodes.length t3, .slice s4 m4 t4] 26)).cell? ⟨w2.heap.size, 3, none⟩ = some (.slice q4 n4 k4) := rowOf_cell hrowA 3
  have hsm := rsame_any g g _ _ _ (hG3.below hbA) (hH.below hbA) HSh.out.1 HSh.out.2.1 HSh.out.2.2.1 HSh.out.2.2.2.1 HSh.out.2.2.2.2
  rw [decide_eq_true rfl] at hsm
  have HC := Lib.hid hsm
  have HB5 := Lib.hid (balloc9 (o := (.cells #[.slice s1 g.parent.length t1, .slice s2 m2 t2, .slice s3 g.nodes.length t3, .slice s4 m4 t4] 26)) HB4.out)
  clear HX2 hb3 hrow HB3 hG3 hH HG hbA hrowA hsm HB4
  go_wp2_with fail
  refine (HC.out).mono ?_
  rintro ee w4 ⟨rfl, hb4⟩
  have HB6 := Lib.hid (HB5.out.trans (hb4.mono HB5.out.size))
  clear hb4
  go_wp2
  go_returns
  exact ⟨rfl, HB6.out⟩
end Go.Proofs.Ytdhmoiiagplbpaa
