/- the document's Of, List, Join on bags -/
import Derived.Test.YtmmojohjipmoaaaBrc
import Derived.Test.YtmmojohjipmoaaaBg
import Derived.Test.YtmmojohjipmoaaaBl
import Derived.Deep.RegionHeldLaw
namespace Go.Proofs.Ytmmojohjipmoaaa
open Go.RowKit
set_option linter.unusedVariables false
set_option linter.unusedSimpArgs false

theorem ofI_take {xs : List RV} {k : Nat} (hk : k < xs.length) : ofI (xs.take (k + 1)) = addI (ofI (xs.take k)) xs[k]! 1 := by
  unfold ofI
  rw [take_getA xs k hk, List.foldl_append]
  rfl
set_option maxRecDepth 100000 in
set_option maxHeartbeats 4000000 in
theorem rof_row (xs : List RV) (b off cap : Nat) (w : World) (hl : xs.length ≤ 300000) (hb : b < w.heap.size) (hr : RR.Row w b off xs) :
    Calls Try.prog 22 #[.slice (some ⟨b, off, none⟩) xs.length cap] w (RI.Made (ofI xs) w) := by
  have hrow : Hid (∀ (W : World), Below w.heap.size w W → ∀ j, j < xs.length → _) := fun W hW j hj => atR (hr.below hW hb) j hj
  clear hr
  generalize hn : xs.length = n at *
  have HN := Lib.hid hn
  clear hn
  go_enter Try.func22, Try.ntmps22
  go_wp2
  go_loopg [3, 4] n (fun gg v i wr => ∃ k : Nat, k ≤ n ∧ n - k ≤ gg ∧ i = .int .i64 k ∧ Hid (Below w.heap.size w wr) ∧ Hid (RI.Own w.heap.size wr v (ofI (xs.take k))))
  case atStart => exact ⟨0, Nat.zero_le _, by omega, rfl, Below.refl _ _, RowKind.Own.nil RI _ _⟩
  case round =>
    obtain ⟨k, hkn, hg, rfl, HB, HO⟩ := hrel
    by_cases hlt : k < n
    · have hlz : (k : Int) < (n : Int) := by omega
      have hkl : k < xs.length := by rw [HN.out]; exact hlt
      obtain ⟨e0, e1⟩ := hrow.out wr HB.out k hlt
      have hst := ofI_take hkl
      have hln := (ofI_is (xs := xs.take k) (by rw [List.length_take]; omega)).2.2
      rw [List.length_take] at hln
      generalize ofI (xs.take k) = acc at *
      generalize xs[k]! = y at *
      have hcall := radd_any acc y 1 u3 wr (by omega) (by omega) HO.out.is
      rw [← hst] at hcall
      have HC := Lib.hid hcall
      clear hcall hst hrow
      go_wp2_with fail
      refine (HC.out).mono ?_
      rintro e w2 ⟨v2, rfl, hO, hb2⟩
      have HO2 := Lib.hid (hO.mono HB.out.size)
      have HB2 := Lib.hid (HB.out.trans (hb2.mono HB.out.size))
      clear hO hb2 HC e0 e1 HO
      go_wp2
      go_roundg (n - (k + 1))
      case measure => omega
      case rel => exact ⟨k + 1, by omega, by omega, by go_num, HB2.out, HO2.out⟩
    · have hlz : ¬ (k : Int) < (n : Int) := by omega
      have : k = n := by omega
      subst this
      have HX : Hid (RI.Own w.heap.size wr u3 (ofI xs)) := by
        have h := HO.out
        rw [List.take_of_length_le (by rw [HN.out]; exact Nat.le_refl _)] at h
        exact h
      clear HO hrow
      go_wp2
      go_returns
      exact ⟨_, rfl, HX.out, HB.out⟩
set_option maxHeartbeats 2000000 in
theorem rof_nil (p : Option Addr) (cap : Nat) (w : World) : Calls Try.prog 22 #[.slice p 0 cap] w (RI.Made (ofI []) w) := by
  show Calls _ _ _ _ (RI.Made [] w)
  go_enter Try.func22, Try.ntmps22
  go_wp2
  refine wp_loop_rounds 1 ?_
  rw [rounds_succ]
  go_wp2
  go_returns
  exact ⟨_, rfl, RowKind.Own.nil RI _ _, Below.refl _ _⟩
theorem rof_any (xs : List RV) (v : Value) (w : World) (hl : xs.length ≤ 300000) (h : RR.Is w v xs) : Calls Try.prog 22 #[v] w (RI.Made (ofI xs) w) := by
  rcases h with ⟨rfl, p, cap, rfl, _⟩ | ⟨h0, b, off, cap, rfl, hb, hr⟩
  · exact rof_nil p cap w
  · exact rof_row xs b off cap w hl hb hr
set_option maxRecDepth 100000 in
set_option maxHeartbeats 8000000 in
theorem rlist_any (xs : List IV) (v : Value) (w : World) (hl : xs.length ≤ 900000) (h : RI.Is w v xs) : Calls Try.prog 24 #[v] w (MadeL xs w) := by
  have HT := Lib.hid (rthere_any xs v w hl h)
  have hgd := thereI_good xs
  have hps := thereI_pos xs
  have hln := Nat.le_trans (thereI_len xs) hl
  have hok : okL xs = decide ((recL (thereI xs)).length ≤ 65536) := rfl
  have hli : listL xs = if okL xs = true then recL (thereI xs) else [] := rfl
  unfold MadeL
  generalize okL xs = ok at *
  generalize listL xs = res at *
  generalize thereI xs = T at *
  obtain ⟨p, c, rfl⟩ := h.slice
  clear h hl
  generalize xs.length = n0 at *
  have HOk := Lib.hid hok; have HLi := Lib.hid hli
  have HP : Hid (∀ k, k < T.length → 0 < (T[k]!).n ∧ (T[k]!).n ≤ 2147483648) := fun k hk => by
    have hm : T[k]! ∈ T := by rw [getElem!_pos T k hk]; exact List.getElem_mem hk
    exact ⟨hps _ hm, ((IV.ok_iff _).1 (hgd.1 _ hm)).2.2⟩
  clear hok hli hgd hps
  go_enter Try.func24, Try.ntmps24
  go_wp2_with fail
  refine (HT.out).mono ?_
  rintro e w1 ⟨u, rfl, hO, hB⟩
  have HB1 := Lib.hid hB
  clear hB HT
  rcases hO.is with ⟨rfl, q, cap, rfl, _⟩ | ⟨hne, b, off, cap, rfl, hb, hr⟩
  · have HK : Hid (ok = true) := by show _ = _; rw [HOk.out]; exact decide_eq_true (by rw [recL_nil]; simp)
    have HR : Hid (res = []) := by show _ = _; rw [HLi.out, recL_nil]; split <;> rfl
    clear hO HOk HLi HP
    go_wp2
    refine wp_loop_rounds 1 ?_
    rw [rounds_succ]
    go_wp2
    go_returns
    rw [HK.out, HR.out]
    exact ⟨_, rfl, RowKind.Own.nil RR _ _, HB1.out⟩
  · have hrow : Hid (∀ (W : World), Below w1.heap.size w1 W → ∀ j, j < T.length → _) := fun W hW j hj => atI (hr.below hW hb) j hj
    clear hr hO hne
    generalize hn : T.length = n at *
    have HN := Lib.hid hn
    clear hn
    go_wp2
    go_loopg [5, 6] n (fun gg v i wr => ∃ (k : Nat) (acc : List RV), k ≤ n ∧ n - k ≤ gg ∧ i = .int .i64 k ∧ acc.length ≤ 65536 ∧ Hid (Below w1.heap.size w1 wr) ∧ Hid (RR.Own w1.heap.size wr v acc) ∧ Hid (acc = recL (T.take k)))
    case atStart => exact ⟨0, [], Nat.zero_le _, by omega, rfl, by simp, Below.refl _ _, RowKind.Own.nil RR _ _, rfl⟩
    case round =>
      obtain ⟨k, acc, hkn, hg, rfl, hal, HB, HO, HA⟩ := hrel
      by_cases hlt : k < n
      · have hlz : (k : Int) < (n : Int) := by omega
        have hc := fun W hW => hrow.out W hW k hlt
        obtain ⟨hp1, hp2⟩ := HP.out k hlt
        have hst := recL_append (T.take k) [T[k]!]
        rw [← take_getA T k (by rw [HN.out]; exact hlt), recL_one, ← HA.out] at hst
        have HS := Lib.hid hst
        clear hst hrow
        generalize T[k]! = y at hc HS hp1 hp2
        obtain ⟨t, m⟩ := y
        simp only at hc hp1 hp2
        obtain ⟨N, rfl⟩ : ∃ N : Nat, m = (N : Int) := ⟨m.toNat, by omega⟩
        have HC := Lib.hid hc
        clear hc
        generalize ha : acc.length = a at *
        have HAl := Lib.hid ha
        clear ha
        go_wp2
        go_loopg [5, 7] N (fun gg v i wq => ∃ j : Nat, j ≤ N ∧ a + j ≤ 65536 ∧ N - j ≤ gg ∧ i = .int .i64 j ∧ Hid (Below w1.heap.size w1 wq) ∧ Hid (RR.Own w1.heap.size wq v (acc ++ List.replicate j t)))
        case atStart => exact ⟨0, Nat.zero_le _, by omega, by omega, rfl, HB.out, by show RR.Own _ _ _ _; rw [List.replicate_zero, List.append_nil]; exact HO.out⟩
        case round =>
          obtain ⟨j, hjN, haj, hgj, rfl, HQ1, HOj⟩ := hrel
          obtain ⟨e0, e1, e2⟩ := HC.out _ HQ1.out
          have hll : (acc ++ List.replicate j t).length = a + j := by rw [List.length_append, List.length_replicate, HAl.out]
          have hlen : (acc ++ List.replicate j t).length ≤ 900000 := by rw [hll]; omega
          have hsl := HOj.out.is.slice
          rw [hll] at hsl
          obtain ⟨p3, c3, rfl⟩ := hsl
          have hzq := HQ1.out.size
          clear hll
          by_cases hjl : j < N
          · have hjz : (j : Int) < (N : Int) := by omega
            by_cases hfull : a + j = 65536
            · have HK : Hid (ok = false) := by
                show _ = _
                rw [HOk.out]
                refine decide_eq_false fun h => ?_
                have h1 := recL_take_le T (k + 1)
                rw [HS.out, List.length_append, List.length_replicate, HAl.out] at h1
                try simp only at h1
                omega
              have HR : Hid (res = []) := by show _ = _; rw [HLi.out, HK.out]; rfl
              have hfb : (((a + j : Nat) : Int) == 65536) = true := by rw [hfull]; rfl
              have hfb2 : ((a : Int) + (j : Int) == 65536) = true := by simpa using (by omega : (a : Int) + (j : Int) = 65536)
              clear HOk HLi HS HA HP hfull
              go_wp2
              go_returns
              rw [HK.out, HR.out]
              exact ⟨_, rfl, RowKind.Own.nil RR _ _, HB1.out.trans (HQ1.out.mono HB1.out.size)⟩
            · have hfb : (((a + j : Nat) : Int) == 65536) = false := by simpa using (by omega : ¬ ((a + j : Nat) : Int) = 65536)
              have hfb2 : ((a : Int) + (j : Int) == 65536) = false := by simpa using (by omega : ¬ (a : Int) + (j : Int) = 65536)
              go_wp2_with (at_builtin; refine RowKind.Own.push (R := RR) (y := t) HOj.out HQ1.out hzq rfl _ _ rfl rfl _ rfl hlen (Nat.le_refl _) ?_; intro v5 w5 hO5 hB5 hz5)
              go_roundg (N - (j + 1))
              case measure => omega
              case rel =>
                refine ⟨j + 1, by omega, by omega, by omega, by go_num, hB5, ?_⟩
                show RR.Own _ _ _ _
                rw [List.replicate_succ', ← List.append_assoc]
                exact hO5
          · have hjz : ¬ (j : Int) < (N : Int) := by omega
            have : j = N := by omega
            subst this
            go_wp2
            go_roundg (n - (k + 1))
            case measure => omega
            case rel =>
              refine ⟨k + 1, acc ++ List.replicate j t, by omega, by omega, by go_num, by rw [List.length_append, List.length_replicate, HAl.out]; exact haj, HQ1.out, HOj.out, ?_⟩
              show _ = _
              rw [HS.out]
              simp
      · have hlz : ¬ (k : Int) < (n : Int) := by omega
        have : k = n := by omega
        subst this
        have HE : Hid (acc = recL T) := by
          have h := HA.out
          rw [List.take_of_length_le (by rw [HN.out]; exact Nat.le_refl _)] at h
          exact h
        have HK : Hid (ok = true) := by show _ = _; rw [HOk.out, ← HE.out]; exact decide_eq_true hal
        have HR : Hid (res = acc) := by show _ = _; rw [HLi.out, HK.out, ← HE.out]; rfl
        clear HOk HLi HA HP hrow
        go_wp2
        go_returns
        rw [HK.out, HR.out]
        exact ⟨_, rfl, HO.out.mono HB1.out.size, HB1.out.trans (HB.out.mono HB1.out.size)⟩
end Go.Proofs.Ytmmojohjipmoaaa
