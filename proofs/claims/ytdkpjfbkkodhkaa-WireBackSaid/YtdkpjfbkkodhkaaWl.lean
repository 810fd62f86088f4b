/- the law WireBack -/
import Derived.Test.YtdkpjfbkkodhkaaWh
import Derived.Deep.RegionHeldLaw
namespace Go.Proofs.Ytdkpjfbkkodhkaa
open Go.RowKit
set_option linter.unusedVariables false
set_option linter.unusedSimpArgs false
attribute [local go_sem ↓] run_imin

set_option maxRecDepth 100000 in
set_option maxHeartbeats 4000000 in
theorem wireBack_walk (n : Int) (n0 : 0 ≤ n) (n9 : n ≤ 18446744073709551615) (m : Int) (m0 : -9223372036854775808 ≤ m) (m9 : m ≤ 9223372036854775807) (xs : List Int) (va : Value) (w : World) (ha : RB.Is w va xs) (ca : capOk va) (hn : okB xs) :
    Calls Try.prog 5 #[.int .u64 n, .int .i64 m, va] w (Ret (.bool true) w) := by
  obtain ⟨n, rfl⟩ := Int.eq_ofNat_of_zero_le n0
  have n64 : n < 18446744073709551616 := by omega
  clear n0 n9
  obtain ⟨p1, c1, rfl⟩ := ha.slice
  have k1 := ca _ _ _ rfl
  clear ca
  have hnt := fun m => show okB (xs.take m) from fun x hx => hn x (List.mem_of_mem_take hx)
  clear hn
  generalize xs.length = n1 at *
  have HA := Lib.hid ha
  clear ha
  obtain ⟨m1, e1, l1, h1, z1⟩ := cutTo 100 n1 (by decide)
  have e1 : imin (n1 : Int) 100 = (m1 : Int) := e1
  have d1 : m1 ≤ c1 := by omega
  have hmn : (xs.take m1).length ≤ 100 := by rw [List.length_take]; omega
  have HA2 := Lib.hid (HA.out.cut m1 l1 z1)
  have hF := hnt m1
  have HF := Lib.hid hF
  clear l1 z1 HA k1 hnt hF
  have hfl := fun (F : List Int) (h : RB.Is w (.slice p1 m1 c1) F) => h.slice
  generalize xs.take m1 = F at *
  clear hfl
  have HU0 : Hid (∀ W, Calls Try.prog 9 #[.slice none 0 0, .int .u64 (n : Int)] W (RB.Made (bytesOf n) W)) := fun W => uint_any [] (.slice none 0 0) n W (by simp) n64 (RowKind.Is.nil W)
  have HI0 : Hid (∀ W, Calls Try.prog 11 #[.slice none 0 0, .int .i64 m] W (RB.Made (bytesOf (zig m)) W)) := fun W => intB_any [] (.slice none 0 0) m W (by simp) m0 m9 (RowKind.Is.nil W)
  have z64 := zig_lt m0 m9
  have HR1 : Hid (∀ W v, RB.Is W v (bytesOf n ++ F) → Calls Try.prog 13 #[v] W (RetW (.tuple #[.int .u64 (n : Int), .int .i64 ((bytesOf n).length : Int), .int .i64 0]) W)) := fun W v h => by
    have q := readU_any (bytesOf n ++ F) v W (by rw [List.length_append]; have := bytes_len10 n64; omega) (fun x hx => (List.mem_append.1 hx).elim (bytes_ok n x) (HF.out x)) h
    rw [read_put n F n64] at q
    exact q
  have HR2 : Hid (∀ j, j < (bytesOf n).length → ∀ W v, RB.Is W v ((bytesOf n).take j) → Calls Try.prog 13 #[v] W (RetW (.tuple #[.int .u64 0, .int .i64 0, .int .i64 3]) W)) := fun j hj W v h => by
    have q := readU_any ((bytesOf n).take j) v W (by rw [List.length_take]; have := bytes_len10 n64; omega) (fun x hx => bytes_ok n x (List.mem_of_mem_take hx)) h
    rw [read_short n j n64 hj] at q
    exact q
  have HRI : Hid (∀ W v, RB.Is W v (bytesOf (zig m)) → Calls Try.prog 15 #[v] W (Ret (.tuple #[.int .i64 m, .int .i64 ((bytesOf (zig m)).length : Int), .int .i64 0]) W)) := fun W v h => by
    have q := readI_any (bytesOf (zig m)) v W (by have := bytes_len10 z64; omega) (bytes_ok _) h
    have e := read_put (zig m) [] z64
    rw [List.append_nil] at e
    rw [e] at q
    unfold RdI at q
    rw [zag_zig] at q
    exact q
  have HRF := Lib.hid (fun W (hW : Below w.heap.size w W) => readU_any F (.slice p1 m1 c1) W (by omega) HF.out (HA2.out.below hW))
  have hFc := read_cases HF.out
  have hX10 := bytes_len10 n64
  have hX1 := bytes_pos n
  have hFm : F.length = m1 ∨ True := .inr trivial
  generalize bytesOf n = X at *
  generalize bytesOf (zig m) = C at *
  have HAW := Lib.hid (fun W => wireAwake W)
  have bn : ((n : Int) != (n : Int)) = false := by simp
  have bm : ((m : Int) != (m : Int)) = false := by simp
  go_enter Try.func5, Try.ntmps5
  go_wp2_with fail
  refine (HAW.out _).mono ?_
  rintro ee w1 ⟨rfl, hb1⟩
  have HB1 := Lib.hid hb1
  clear hb1
  go_wp2_with fail
  refine (HU0.out _).mono ?_
  rintro ee w2 ⟨v2, rfl, hO2, hB2⟩
  have HB2 := Lib.hid (HB1.out.trans (hB2.mono HB1.out.size))
  have hcap := ownCapB hO2
  rcases hO2.is with ⟨h, _⟩ | ⟨hXn, g, off, cap, rfl, hg, hr⟩
  · rw [h] at hX1; simp at hX1
  have hcap := hcap _ _ _ rfl
  have HX2 : Hid (RB.Is w2 (.slice (some ⟨g, off, none⟩) X.length cap) X) := .inr ⟨hXn, g, off, cap, rfl, hg, hr⟩
  have HX2c : Hid (∀ W, Below w2.heap.size w2 W → ∀ j, j ≤ X.length → RB.Is W (.slice (some ⟨g, off, none⟩) j cap) (X.take j)) := fun W hW j hj => by
    by_cases h0 : j = 0
    · subst h0; exact .inl ⟨rfl, some _, cap, rfl, fun h => by cases h⟩
    · exact (RowKind.Is.below (.inr ⟨hXn, g, off, cap, rfl, hg, hr⟩) hW).cut j hj (fun h => absurd h h0)
  clear hO2 hB2 hXn hg hr
  have hB3 := (Below.refl w2.heap.size w2).alloc (Nat.le_refl _) (.cells #[] 5)
  have HB3 := Lib.hid hB3
  have HO3 := Lib.hid (show RB.Own w2.heap.size (w2.alloc (.cells #[] 5)) (.slice (some ⟨w2.heap.size, 0, none⟩) 0 0) [] from World.ownsRow_made w2 #[] 0 (Nat.le_refl _) (Nat.zero_le _) rfl)
  have HX3 := Lib.hid (HX2.out.below hB3)
  have hb23 := HB2.out
  have HF3 := Lib.hid (fun W (hW : Below w2.heap.size w2 W) => HA2.out.below (hb23.trans (hW.mono hb23.size)))
  clear hB3 hb23
  have HL1 : Hid (([] : List Int).length + X.length ≤ 1000000) := by show _ ≤ _; simp; omega
  have HL2 : Hid ((([] : List Int) ++ X).length + F.length ≤ 1000000) := by show _ ≤ _; simp; omega
  generalize hXl : X.length = L at *
  have HXl := Lib.hid hXl
  clear hXl
  have HL1 : Hid (([] : List Int).length + X.length ≤ 1000000) := by show _ ≤ _; rw [HXl.out]; simp; omega
  have HL2 : Hid ((([] : List Int) ++ X).length + F.length ≤ 1000000) := by show _ ≤ _; rw [List.nil_append, HXl.out]; omega
  have bL : ((L : Int) != (L : Int)) = false := by simp
  go_wp2_with (first
    | (at_builtin; refine RowKind.Own.appendAny (R := RB) (ys := X) HO3.out HB3.out (by simp) rfl _ _ rfl rfl rfl HX3.out HL1.out ?_; intro v4 w4 hO4 hB4 hz4)
    | (at_builtin; refine RowKind.Own.appendAny (R := RB) (ys := F) hO4 hB4 hB4.size rfl _ _ rfl rfl rfl (HF3.out _ hB4) HL2.out ?_; intro v5 w5 hO5 hB5 hz5))
  have hI5 := hO5.is
  rw [List.nil_append] at hI5
  have HI5 := Lib.hid hI5; have HB5 := Lib.hid hB5
  clear hI5 hO4 hB4 hz4 hO5 hB5 hz5 HO3 HB3 HX3 HL1 HL2
  refine (HR1.out _ _ HI5.out).mono ?_
  rintro ee w6 ⟨rfl, rfl⟩
  clear HI5 HR1 HX2
  go_wp2_with fail
  go_loopg [11] L (fun gg i wr => ∃ k : Nat, k ≤ L ∧ L - k ≤ gg ∧ i = .int .i64 (k : Int) ∧ Hid (Below w2.heap.size w2 wr))
  case atStart => exact ⟨0, Nat.zero_le _, by omega, rfl, HB5.out⟩
  case round =>
    obtain ⟨k, hkL, hg, rfl, HBr⟩ := hrel
    by_cases hlt : k < L
    · have hi : (k : Int) < (L : Int) := by omega
      have hkc : k ≤ cap := by omega
      go_wp2_with fail
      refine (HR2.out k hlt _ _ (HX2c.out _ HBr.out k hkL)).mono ?_
      rintro ee w7 ⟨rfl, rfl⟩
      go_wp2
      go_roundg (L - (k + 1))
      case measure => omega
      case rel => exact ⟨k + 1, by omega, by omega, by go_num, HBr.out⟩
    · have hi : ¬ (k : Int) < (L : Int) := by omega
      have HB7 := Lib.hid (HB2.out.trans (HBr.out.mono HB2.out.size))
      clear HX2c HR2 HF3 HB5
      go_wp2_with fail
      refine (HI0.out _).mono ?_
      rintro ee w8 ⟨v8, rfl, hO8, hB8⟩
      have HB8 := Lib.hid (HB7.out.trans (hB8.mono HB7.out.size))
      have HI8 := Lib.hid hO8.is
      clear hO8 hB8
      go_wp2_with fail
      refine (HRI.out _ _ HI8.out).mono ?_
      rintro ee w9 ⟨rfl, hB9⟩
      have HB9 := Lib.hid (HB8.out.trans (hB9.mono HB8.out.size))
      clear hB9 HI8
      go_wp2_with fail
      refine (HI0.out _).mono ?_
      rintro ee w10 ⟨v10, rfl, hO10, hB10⟩
      have HB10 := Lib.hid (HB9.out.trans (hB10.mono HB9.out.size))
      obtain ⟨p10, c10, rfl⟩ := hO10.is.slice
      clear hO10 hB10
      generalize C.length = cl at *
      have bC : ((cl : Int) != (cl : Int)) = false := by simp
      go_wp2_with fail
      refine (HRF.out _ HB10.out).mono ?_
      rintro ee w11 ⟨rfl, rfl⟩
      clear HRF HRI HI0 HU0
      rcases hFc with ⟨y, s, hr, hs1, hs2, hyb, hy64⟩ | hr | hr
      · rw [hr]
        have be : ((0 : Int) != 0) = false := by decide
        have hm1 : F.length = m1 := by
          obtain ⟨q, d, e⟩ := HA2.out.slice
          simp only [Value.slice.injEq] at e
          exact e.2.1.symm
        have HUy : Hid (∀ W, Calls Try.prog 9 #[.slice none 0 0, .int .u64 (y : Int)] W (RB.Made (F.take s) W)) := fun W => by
          have q := uint_any [] (.slice none 0 0) y W (by simp) hy64 (RowKind.Is.nil W)
          rw [List.nil_append, hyb] at q
          exact q
        have HFs : Hid (∀ W, Below w.heap.size w W → RB.Is W (.slice p1 s c1) (F.take s)) := fun W hW => (HA2.out.below hW).cut s (by omega) (by omega)
        have HSm : Hid (∀ W u v, RB.Is W u (F.take s) → RB.Is W v (F.take s) → Calls Try.prog 8 #[u, v] W (Ret (.bool true) W)) := fun W u v h k => by
          have q := sameB_any (F.take s) (F.take s) u v W (by rw [List.length_take]; omega) h k
          rw [decide_eq_true rfl] at q
          exact q
        have hs1i : (s : Int) ≥ 1 := by omega
        have hs2i : (s : Int) ≤ (m1 : Int) := by omega
        have hsc : s ≤ c1 := by omega
        have hc : Below w.heap.size w w11.drew := HB10.out.drew
        have HM1 := Lib.hid hm1; have HYB := Lib.hid hyb
        clear hm1 hyb hr hs1 hs2
        generalize F.take s = T at *
        clear HA2 HF
        go_wp2_with fail
        go_region_held_law (fun _ => True) (exact trivial) (first
          | (go_at_call 8; (with_reducible refine Calls.mono (HSm.out _ _ _ hIu (HFs.out _ hc)) ?_); rintro e wb ⟨rfl, hbb⟩; replace hc := hc.trans (hbb.mono hc.size))
          | (go_at_call 9; (with_reducible refine Calls.mono (HUy.out _) ?_); rintro e wu ⟨vu, rfl, hOu, hbu⟩; have hIu := hOu.is; replace hc := hc.trans (hbu.mono hc.size); clear hOu hbu))
        all_goals
          try simp only [List.getElem_toArray, List.getElem_cons_succ, List.getElem_cons_zero, Act.put, List.setIfInBounds_toArray, List.set_cons_zero, List.set_cons_succ]
          go_wp2
          go_returns
          exact ⟨rfl, hc⟩
      · rw [hr]
        have be : ((3 : Int) != 0) = true := by decide
        go_wp2_with fail
        go_quiet (fail)
        go_wp2
        go_returns
        exact ⟨rfl, below_drewN HB10.out _⟩
      · rw [hr]
        have be : ((4 : Int) != 0) = true := by decide
        go_wp2_with fail
        go_quiet (fail)
        go_wp2
        go_returns
        exact ⟨rfl, below_drewN HB10.out _⟩
end Go.Proofs.Ytdkpjfbkkodhkaa
