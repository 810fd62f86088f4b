/- the law WireReads -/
import Derived.Test.YtdkpjfbkkodhkaaWh
namespace Go.Proofs.Ytdkpjfbkkodhkaa
open Go.RowKit
set_option linter.unusedVariables false
set_option linter.unusedSimpArgs false
attribute [local go_sem ↓] run_imin

set_option maxRecDepth 100000 in
set_option maxHeartbeats 4000000 in
theorem wireReads_walk (xs : List Int) (va : Value) (w : World) (ha : RB.Is w va xs) (ca : capOk va) (hn : okB xs) :
    Calls Try.prog 4 #[va] w (Ret (.bool true) w) := by
  obtain ⟨p1, c1, rfl⟩ := ha.slice
  have k1 := ca _ _ _ rfl
  clear ca
  have hnt := fun m => show okB (xs.take m) from fun x hx => hn x (List.mem_of_mem_take hx)
  clear hn
  generalize xs.length = n1 at *
  have HA := Lib.hid ha
  clear ha
  obtain ⟨m1, e1, l1, h1, z1⟩ := cutTo 100 n1 (by decide)
  have e1 : imin (n1 : Int) 100 = (m1 : Int) := e1
  have d1 : m1 ≤ c1 := by omega
  have hmn : (xs.take m1).length ≤ 100 := by rw [List.length_take]; omega
  have HA2 := Lib.hid (HA.out.cut m1 l1 z1)
  have hF := hnt m1
  have HF := Lib.hid hF
  clear l1 z1 HA k1 hnt hF
  have hfl := fun (F : List Int) (h : RB.Is w (.slice p1 m1 c1) F) => h.slice
  generalize xs.take m1 = F at *
  clear hfl
  have HU := Lib.hid (fun W (hW : Below w.heap.size w W) => readU_any F (.slice p1 m1 c1) W (by omega) HF.out (HA2.out.below hW))
  have HI := Lib.hid (fun W (hW : Below w.heap.size w W) => readI_any F (.slice p1 m1 c1) W (by omega) HF.out (HA2.out.below hW))
  have HV := Lib.hid (fun W (hW : Below w.heap.size w W) => rreadU_any F (.slice p1 m1 c1) W (by omega) HF.out (HA2.out.below hW))
  have HJ := Lib.hid (fun W (hW : Below w.heap.size w W) => rreadI_any F (.slice p1 m1 c1) W (by omega) HF.out (HA2.out.below hW))
  clear HA2 HF hmn
  generalize readU F = r at *
  obtain ⟨y, s, e⟩ := r
  have b1 : ((y : Int) != (y : Int)) = false := by simp
  have b2 : ((s : Int) != (s : Int)) = false := by simp
  have b3 : ((e : Int) != (e : Int)) = false := by simp
  have g1 : ((zag y : Int) == (zag y : Int)) = true := by simp
  have g2 : ((s : Int) == (s : Int)) = true := by simp
  have g3 : ((e : Int) == (e : Int)) = true := by simp
  have HAW := Lib.hid (fun W => wireAwake W)
  go_enter Try.func4, Try.ntmps4
  go_wp2_with fail
  refine (HAW.out _).mono ?_
  rintro ee w1 ⟨rfl, hb1⟩
  have HB1 := Lib.hid hb1
  clear hb1
  go_wp2_with fail
  refine (HU.out _ HB1.out).mono ?_
  rintro ee w2 ⟨rfl, rfl⟩
  go_wp2_with fail
  refine (HV.out _ HB1.out).mono ?_
  rintro ee w3 ⟨rfl, rfl⟩
  go_wp2_with fail
  refine (HI.out _ HB1.out).mono ?_
  rintro ee w4 ⟨rfl, hb4⟩
  have HB4 := Lib.hid (HB1.out.trans (hb4.mono HB1.out.size))
  clear hb4
  go_wp2_with fail
  refine (HJ.out _ HB4.out).mono ?_
  rintro ee w5 ⟨rfl, hb5⟩
  have HB5 := Lib.hid (HB4.out.trans (hb5.mono HB4.out.size))
  clear hb5
  go_wp2
  go_returns
  exact ⟨rfl, HB5.out⟩
end Go.Proofs.Ytdkpjfbkkodhkaa
