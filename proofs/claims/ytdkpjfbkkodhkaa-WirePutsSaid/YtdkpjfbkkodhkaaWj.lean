/- the law WirePuts -/
import Derived.Test.YtdkpjfbkkodhkaaWh
namespace Go.Proofs.Ytdkpjfbkkodhkaa
open Go.RowKit
set_option linter.unusedVariables false
set_option linter.unusedSimpArgs false
attribute [local go_sem ↓] run_imin

set_option maxRecDepth 100000 in
set_option maxHeartbeats 4000000 in
theorem wirePuts_walk (xs : List Int) (n : Int) (n0 : 0 ≤ n) (n9 : n ≤ 18446744073709551615) (m : Int) (m0 : -9223372036854775808 ≤ m) (m9 : m ≤ 9223372036854775807) (va : Value) (w : World) (ha : RB.Is w va xs) (ca : capOk va) (hn : okB xs) :
    Calls Try.prog 3 #[va, .int .u64 n, .int .i64 m] w (Ret (.bool true) w) := by
  obtain ⟨n, rfl⟩ := Int.eq_ofNat_of_zero_le n0
  have n64 : n < 18446744073709551616 := by omega
  clear n0 n9
  obtain ⟨p1, c1, rfl⟩ := ha.slice
  have k1 := ca _ _ _ rfl
  clear ca
  have hnt := fun m => show okB (xs.take m) from fun x hx => hn x (List.mem_of_mem_take hx)
  clear hn
  generalize xs.length = n1 at *
  have HA := Lib.hid ha
  clear ha
  obtain ⟨m1, e1, l1, h1, z1⟩ := cutTo 100 n1 (by decide)
  have e1 : imin (n1 : Int) 100 = (m1 : Int) := e1
  have d1 : m1 ≤ c1 := by omega
  have hmn : (xs.take m1).length ≤ 100 := by rw [List.length_take]; omega
  have HA2 := Lib.hid (HA.out.cut m1 l1 z1)
  have hF := hnt m1
  have HF := Lib.hid hF
  clear l1 z1 HA k1 hnt hF
  have hfl := fun (F : List Int) (h : RB.Is w (.slice p1 m1 c1) F) => h.slice
  generalize xs.take m1 = F at *
  clear hfl
  have HU := Lib.hid (fun W (hW : Below w.heap.size w W) => uint_any F (.slice p1 m1 c1) n W (by omega) n64 (HA2.out.below hW))
  have HV := Lib.hid (fun W (hW : Below w.heap.size w W) => ruint_any F (.slice p1 m1 c1) n W (by omega) n64 (HA2.out.below hW))
  have HI := Lib.hid (fun W (hW : Below w.heap.size w W) => intB_any F (.slice p1 m1 c1) m W (by omega) m0 m9 (HA2.out.below hW))
  have HJ := Lib.hid (fun W (hW : Below w.heap.size w W) => rintB_any F (.slice p1 m1 c1) m W (by omega) m0 m9 (HA2.out.below hW))
  have hA : (F ++ bytesOf n).length ≤ 900000 := by rw [List.length_append]; have := bytes_len10 n64; omega
  have hC : (F ++ bytesOf (zig m)).length ≤ 900000 := by rw [List.length_append]; have := bytes_len10 (zig_lt m0 m9); omega
  clear HA2 HF hmn n64 m0 m9
  generalize F ++ bytesOf n = A at *
  generalize F ++ bytesOf (zig m) = C at *
  have hs : ∀ (X : List Int), X.length ≤ 900000 → ∀ (u v : Value) (W : World), RB.Is W u X → RB.Is W v X → Calls Try.prog 8 #[u, v] W (Ret (.bool true) W) := fun X hX u v W h k => by
    have q := sameB_any X X u v W hX h k
    rw [decide_eq_true rfl] at q
    exact q
  have HS1 := Lib.hid (hs A hA); have HS2 := Lib.hid (hs C hC)
  have HAW := Lib.hid (fun W => wireAwake W)
  clear hs hA hC
  go_enter Try.func3, Try.ntmps3
  go_wp2_with fail
  refine (HAW.out _).mono ?_
  rintro ee w1 ⟨rfl, hb1⟩
  have HB1 := Lib.hid hb1
  clear hb1
  go_wp2_with fail
  refine (HU.out _ HB1.out).mono ?_
  rintro ee w2 ⟨v2, rfl, hO2, hB2⟩
  have HO2 := Lib.hid hO2.is; have HB2 := Lib.hid (HB1.out.trans (hB2.mono HB1.out.size))
  clear hO2 hB2
  go_wp2_with fail
  refine (HV.out _ HB2.out).mono ?_
  rintro ee w3 ⟨v3, rfl, hO3, hB3⟩
  have HO3 := Lib.hid hO3.is; have HB3 := Lib.hid (HB2.out.trans (hB3.mono HB2.out.size))
  have HO2' := Lib.hid (HO2.out.below hB3)
  clear hO3 hB3
  go_wp2_with fail
  refine (HS1.out _ _ _ HO2'.out HO3.out).mono ?_
  rintro ee w4 ⟨rfl, hB4⟩
  have HB4 := Lib.hid (HB3.out.trans (hB4.mono HB3.out.size))
  clear hB4 HO2 HO2' HO3
  go_wp2_with fail
  refine (HI.out _ HB4.out).mono ?_
  rintro ee w5 ⟨v5, rfl, hO5, hB5⟩
  have HO5 := Lib.hid hO5.is; have HB5 := Lib.hid (HB4.out.trans (hB5.mono HB4.out.size))
  clear hO5 hB5
  go_wp2_with fail
  refine (HJ.out _ HB5.out).mono ?_
  rintro ee w6 ⟨v6, rfl, hO6, hB6⟩
  have HO6 := Lib.hid hO6.is; have HB6 := Lib.hid (HB5.out.trans (hB6.mono HB5.out.size))
  have HO5' := Lib.hid (HO5.out.below hB6)
  clear hO6 hB6
  go_wp2_with fail
  refine (HS2.out _ _ _ HO5'.out HO6.out).mono ?_
  rintro ee w7 ⟨rfl, hB7⟩
  have HB7 := Lib.hid (HB6.out.trans (hB7.mono HB6.out.size))
  clear hB7 HO5 HO5' HO6
  go_wp2
  go_returns
  exact ⟨rfl, HB7.out⟩
end Go.Proofs.Ytdkpjfbkkodhkaa
