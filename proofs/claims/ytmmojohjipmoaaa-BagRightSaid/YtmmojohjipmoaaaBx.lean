/- the law BagLists -/
import Derived.Test.YtmmojohjipmoaaaBaw
import Derived.Test.YtmmojohjipmoaaaBrd
import Derived.Test.YtmmojohjipmoaaaBf
namespace Go.Proofs.Ytmmojohjipmoaaa
open Go.RowKit
set_option linter.unusedVariables false
set_option linter.unusedSimpArgs false
attribute [local go_sem ↓] run_imin

theorem cutRow2 {α : Type} [Inhabited α] {R : RowKind α} {w : World} {v : Value} {xs : List α} (ha : R.Is w v xs) (ca : capOk v) (b : Nat) (hb : 0 < b) :
    ∃ (p : Option Addr) (n m c : Nat), v = .slice p n c ∧ imin (n : Int) (b : Int) = (m : Int) ∧ m ≤ n ∧ m ≤ c ∧ m ≤ b ∧ (xs.take m).length ≤ b ∧ R.Is w (.slice p m c) (xs.take m) := by
  obtain ⟨p1, c1, rfl⟩ := ha.slice
  have k1 := ca _ _ _ rfl
  obtain ⟨m1, e1, l1, h1, z1⟩ := cutTo b xs.length hb
  exact ⟨p1, xs.length, m1, c1, rfl, e1, l1, by omega, h1, by rw [List.length_take]; omega, ha.cut m1 l1 z1⟩
theorem listL_len (xs : List IV) : (listL xs).length ≤ 65536 := by
  unfold listL
  split
  · rename_i h; exact of_decide_eq_true h
  · simp
set_option maxRecDepth 100000 in
set_option maxHeartbeats 8000000 in
theorem bagLists_walk (xa : List RV) (xb : List IV) (va vb : Value) (w : World) (ha : RR.Is w va xa) (hb : RI.Is w vb xb) (ka : capOk va) (kb : capOk vb) (_hn : ∀ x ∈ xb, -9223372036854775808 ≤ x.n ∧ x.n ≤ 9223372036854775807) :
    Calls Try.prog 4 #[va, vb] w (Ret (.bool true) w) := by
  obtain ⟨pa, na, ma, ca, rfl, ea, ja, da, oa, la, HA⟩ := cutRow2 ha ka 100 (by decide)
  obtain ⟨pb, nb, mb, cb, rfl, eb, jb, db, ob, lb, HB⟩ := cutRow2 hb kb 20 (by decide)
  have ea : imin (na : Int) 100 = (ma : Int) := ea
  have eb : imin (nb : Int) 20 = (mb : Int) := eb
  have HA := Lib.hid HA; have HB := Lib.hid HB
  clear ha hb ka kb ja jb _hn
  generalize xa.take ma = A at *
  generalize xb.take mb = B at *
  have lX := (ofI_is (xs := A) (by omega)).2.2
  have HO1 := Lib.hid (fun (W : World) h => bof_any A (.slice pa ma ca) W (by omega) h)
  have HO2 := Lib.hid (fun (W : World) h => rof_any A (.slice pa ma ca) W (by omega) h)
  have HSame : Hid (∀ W u v, RI.Is W u (ofI A) → RI.Is W v (ofI A) → Calls Try.prog 12 #[u, v] W (Ret (.bool true) W)) := fun W u v h k => by
    have q := rsame_any (ofI A) (ofI A) u v W (by omega) (by omega) h k
    rw [decide_eq_true rfl] at q
    exact q
  have HL1 := Lib.hid (fun (W : World) h => blist_any B (.slice pb mb cb) W (by omega) h)
  have HL2 := Lib.hid (fun (W : World) h => rlist_any B (.slice pb mb cb) W (by omega) h)
  have HSR : Hid (∀ W u v, RR.Is W u (listL B) → RR.Is W v (listL B) → Calls Try.prog 25 #[u, v] W (Ret (.bool true) W)) := fun W u v h k => by
    have q := rsameR_any (listL B) (listL B) u v W (by have := listL_len B; omega) (by have := listL_len B; omega) h k
    rw [decide_eq_true rfl] at q
    exact q
  unfold MadeL at HL1 HL2
  generalize ofI A = X at *
  generalize listL B = L at *
  generalize okL B = ok at *
  clear la lb lX
  have HAW := Lib.hid bagAwake
  go_enter Try.func4, Try.ntmps4
  go_wp2_with fail
  refine (HAW.out _).mono ?_
  rintro e w1 ⟨rfl, hb1⟩
  have HA1 := Lib.hid (HA.out.below hb1); have HB1 := Lib.hid (HB.out.below hb1)
  have HW1 := Lib.hid hb1
  clear hb1 HA HB HAW
  go_wp2_with fail
  go_quiet (fail)
  refine gen_q (fun W2 => Below w1.heap.size w1 W2) (below_drewN (Below.refl _ _) _) ?_
  rintro w2 hb2
  have HA2 := Lib.hid (HA1.out.below hb2); have HB2 := Lib.hid (HB1.out.below hb2)
  have HW2 := Lib.hid (HW1.out.trans (hb2.mono HW1.out.size))
  clear hb2 HA1 HB1 HW1
  go_wp2_with fail
  refine (HO1.out _ HA2.out).mono ?_
  rintro e w3 ⟨v3, rfl, hO, hb⟩
  have I3 := Lib.hid hO.is
  have HA3 := Lib.hid (HA2.out.below hb); have HB3 := Lib.hid (HB2.out.below hb)
  have HW3 := Lib.hid (HW2.out.trans (hb.mono HW2.out.size))
  clear hO hb HA2 HB2 HW2
  go_wp2_with fail
  refine (HO2.out _ HA3.out).mono ?_
  rintro e w4 ⟨v4, rfl, hO, hb⟩
  have I4 := Lib.hid hO.is
  have I34 := Lib.hid (I3.out.below hb)
  have HB4 := Lib.hid (HB3.out.below hb)
  have HW4 := Lib.hid (HW3.out.trans (hb.mono HW3.out.size))
  clear hO hb HA3 HB3 HW3 I3
  go_wp2_with fail
  refine (HSame.out _ _ _ I34.out I4.out).mono ?_
  rintro e w5 ⟨rfl, hb⟩
  have HB5 := Lib.hid (HB4.out.below hb)
  have HW5 := Lib.hid (HW4.out.trans (hb.mono HW4.out.size))
  clear hb HB4 HW4 I34 I4
  go_wp2_with fail
  refine (HL1.out _ HB5.out).mono ?_
  rintro e w6 ⟨v6, rfl, hO, hb⟩
  have I6 := Lib.hid hO.is
  have HB6 := Lib.hid (HB5.out.below hb)
  have HW6 := Lib.hid (HW5.out.trans (hb.mono HW5.out.size))
  clear hO hb HB5 HW5
  go_wp2_with fail
  refine (HL2.out _ HB6.out).mono ?_
  rintro e w7 ⟨v7, rfl, hO, hb⟩
  have I7 := Lib.hid hO.is
  have I67 := Lib.hid (I6.out.below hb)
  have HW7 := Lib.hid (HW6.out.trans (hb.mono HW6.out.size))
  clear hO hb HB6 HW6 I6
  cases ok
  · go_wp2_with fail
    refine (HSR.out _ _ _ I67.out I7.out).mono ?_
    rintro e w8 ⟨rfl, hb⟩
    have HW8 := Lib.hid (HW7.out.trans (hb.mono HW7.out.size))
    clear hb
    go_wp2
    go_returns
    exact ⟨rfl, HW8.out⟩
  · go_wp2_with fail
    refine (HSR.out _ _ _ I67.out I7.out).mono ?_
    rintro e w8 ⟨rfl, hb⟩
    have HW8 := Lib.hid (HW7.out.trans (hb.mono HW7.out.size))
    clear hb
    go_wp2
    go_returns
    exact ⟨rfl, HW8.out⟩
end Go.Proofs.Ytmmojohjipmoaaa
