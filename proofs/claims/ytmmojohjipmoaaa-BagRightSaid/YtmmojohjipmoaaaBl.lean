/- bag.List -/
import Derived.Test.YtmmojohjipmoaaaBp
import Derived.Test.YtmmojohjipmoaaaRowKeep
namespace Go.Proofs.Ytmmojohjipmoaaa
open Go.RowKit
set_option linter.unusedVariables false
set_option linter.unusedSimpArgs false

def recL (xs : List IV) : List RV := xs.flatMap fun c => List.replicate c.n.toNat c.t
theorem recL_nil : recL [] = [] := rfl
theorem recL_append (xs ys : List IV) : recL (xs ++ ys) = recL xs ++ recL ys := by simp [recL]
theorem recL_one (c : IV) : recL [c] = List.replicate c.n.toNat c.t := by simp [recL]
theorem recL_take_le (xs : List IV) (k : Nat) : (recL (xs.take k)).length ≤ (recL xs).length := by
  have e : recL xs = recL (xs.take k) ++ recL (xs.drop k) := by rw [← recL_append, List.take_append_drop]
  rw [e, List.length_append]; omega
def okL (xs : List IV) : Bool := decide ((recL (thereI xs)).length ≤ 65536)
def listL (xs : List IV) : List RV := if okL xs = true then recL (thereI xs) else []
/-- the call answers these records, and whether they are not too many -/
def MadeL (xs : List IV) (w : World) (e : Ending) (w' : World) : Prop := ∃ v, e = .returned (.tuple #[v, .bool (okL xs)]) ∧ RR.Own w.heap.size w' v (listL xs) ∧ Below w.heap.size w w'
set_option maxRecDepth 100000 in
set_option maxHeartbeats 8000000 in
theorem blist_any (xs : List IV) (v : Value) (w : World) (hl : xs.length ≤ 900000) (h : RI.Is w v xs) : Calls Try.prog 23 #[v] w (MadeL xs w) := by
  have HT := Lib.hid (bthere_any xs v w hl h)
  have hgd := thereI_good xs
  have hps := thereI_pos xs
  have hln := Nat.le_trans (thereI_len xs) hl
  have hok : okL xs = decide ((recL (thereI xs)).length ≤ 65536) := rfl
  have hli : listL xs = if okL xs = true then recL (thereI xs) else [] := rfl
  unfold MadeL
  generalize okL xs = ok at *
  generalize listL xs = res at *
  generalize thereI xs = T at *
  obtain ⟨p, c, rfl⟩ := h.slice
  clear h hl
  generalize xs.length = n0 at *
  have HOk := Lib.hid hok; have HLi := Lib.hid hli
  have HP : Hid (∀ k, k < T.length → 0 < (T[k]!).n ∧ (T[k]!).n ≤ 2147483648) := fun k hk => by
    have hm : T[k]! ∈ T := by rw [getElem!_pos T k hk]; exact List.getElem_mem hk
    exact ⟨hps _ hm, ((IV.ok_iff _).1 (hgd.1 _ hm)).2.2⟩
  clear hok hli hgd hps
  go_enter Try.func23, Try.ntmps23
  go_wp2_with fail
  refine (HT.out).mono ?_
  rintro e w1 ⟨u, rfl, hO, hB⟩
  have HB1 := Lib.hid hB
  clear hB HT
  rcases hO.is with ⟨rfl, q, cap, rfl, _⟩ | ⟨hne, b, off, cap, rfl, hb, hr⟩
  · have HK : Hid (ok = true) := by show _ = _; rw [HOk.out]; exact decide_eq_true (by rw [recL_nil]; simp)
    have HR : Hid (res = []) := by show _ = _; rw [HLi.out, recL_nil]; split <;> rfl
    clear hO HOk HLi HP
    go_wp2
    refine wp_loop_rounds 1 ?_
    rw [rounds_succ]
    go_wp2
    go_returns
    rw [HK.out, HR.out]
    exact ⟨_, rfl, RowKind.Own.nil RR _ _, HB1.out⟩
  · have hrow : Hid (∀ (W : World), Below w1.heap.size w1 W → ∀ j, j < T.length → _) := fun W hW j hj => atI (hr.below hW hb) j hj
    clear hr hO hne
    generalize hn : T.length = n at *
    have HN := Lib.hid hn
    clear hn
    go_wp2
    go_loopg [4, 10] n (fun gg v i wr => ∃ (k : Nat) (acc : List RV), k ≤ n ∧ n - k ≤ gg ∧ i = .int .i64 k ∧ acc.length ≤ 65536 ∧ Hid (Below w1.heap.size w1 wr) ∧ Hid (RR.Own w1.heap.size wr v acc) ∧ Hid (acc = recL (T.take k)))
    case atStart => exact ⟨0, [], Nat.zero_le _, by omega, rfl, by simp, Below.refl _ _, RowKind.Own.nil RR _ _, rfl⟩
    case round =>
      obtain ⟨k, acc, hkn, hg, rfl, hal, HB, HO, HA⟩ := hrel
      by_cases hlt : k < n
      · have hlz : (k : Int) < (n : Int) := by omega
        have hc := hrow.out wr HB.out k hlt
        obtain ⟨hp1, hp2⟩ := HP.out k hlt
        have hst := recL_append (T.take k) [T[k]!]
        rw [← take_getA T k (by rw [HN.out]; exact hlt), recL_one, ← HA.out] at hst
        have HS := Lib.hid hst
        clear hst hrow
        generalize T[k]! = y at hc HS hp1 hp2
        obtain ⟨t, m⟩ := y
        obtain ⟨e0, e1, e2⟩ := hc
        simp only at e0 e1 e2 hp1 hp2
        obtain ⟨N, rfl⟩ : ∃ N : Nat, m = (N : Int) := ⟨m.toNat, by omega⟩
        have hz := HB.out.size
        have HBn := Lib.hid (HB.out.alloc hz (.cells #[.int .i64 t.k, .int .i64 t.v, .int .i64 (N : Int)] 43))
        have HOn := Lib.hid (HO.out.alloc (.cells #[.int .i64 t.k, .int .i64 t.v, .int .i64 (N : Int)] 43))
        obtain ⟨p3, c3, rfl⟩ := HO.out.is.slice
        generalize ha : acc.length = a at *
        have HAl := Lib.hid ha
        clear ha
        have hw1 : -9223372036854775808 ≤ (65536 : Int) - (a : Int) := by omega
        have hw2 : (65536 : Int) - (a : Int) ≤ 9223372036854775807 := by omega
        by_cases hbig : (65536 : Int) - (a : Int) < (N : Int)
        · have HK : Hid (ok = false) := by
            show _ = _
            rw [HOk.out]
            refine decide_eq_false fun h => ?_
            have h1 := recL_take_le T (k + 1)
            rw [HS.out, List.length_append, List.length_replicate, HAl.out] at h1
            simp only at h1
            omega
          have HR : Hid (res = []) := by show _ = _; rw [HLi.out, HK.out]; rfl
          clear HOk HLi HS HA HP
          go_wp2
          go_returns
          rw [HK.out, HR.out]
          exact ⟨_, rfl, RowKind.Own.nil RR _ _, HB1.out.trans (HBn.out.mono HB1.out.size)⟩
        · have hfit : a + N ≤ 65536 := by omega
          clear HB HO
          have hw3 : ¬ ((N : Int) > (65536 : Int) - (a : Int)) := by omega
          have HX := Lib.hid (Boxed.new wr #[.int .i64 t.k, .int .i64 t.v, .int .i64 (N : Int)] 43)
          go_wp2
          refine gen_world (fun W2 => Below w1.heap.size w1 W2 ∧ RR.Own w1.heap.size W2 (.slice p3 a c3) acc ∧ Boxed W2 wr.heap.size #[.int .i64 t.k, .int .i64 t.v, .int .i64 (N : Int)] 43) ⟨HBn.out, by rw [← HAl.out]; rw [← HAl.out] at HOn; exact HOn.out, HX.out⟩ ?_
          clear HBn HOn HX e0 e1 e2
          rintro w2 ⟨hB2, hO2, hX2⟩
          have HB2 := Lib.hid hB2; have HO2 := Lib.hid hO2; have HX2 := Lib.hid hX2
          clear hB2 hO2 hX2
          go_loopg [4, 22] N (fun gg v i wq => ∃ j : Nat, j ≤ N ∧ N - j ≤ gg ∧ i = .int .i64 j ∧ Hid (Boxed wq wr.heap.size #[.int .i64 t.k, .int .i64 t.v, .int .i64 (N : Int)] 43) ∧ Hid (Below w1.heap.size w1 wq) ∧ Hid (RR.Own w1.heap.size wq v (acc ++ List.replicate j t)))
          case atStart => exact ⟨0, Nat.zero_le _, by omega, rfl, HX2.out, HB2.out, by show RR.Own _ _ _ _; rw [List.replicate_zero, List.append_nil]; exact HO2.out⟩
          case round =>
            obtain ⟨j, hjN, hgj, rfl, HQ, HQ1, HOj⟩ := hrel
            by_cases hjl : j < N
            · have hjz : (j : Int) < (N : Int) := by omega
              obtain ⟨x0, x1, x2⟩ := HQ.out.three
              have hzq := HQ1.out.size
              have hlen : (acc ++ List.replicate j t).length ≤ 900000 := by rw [List.length_append, List.length_replicate, HAl.out]; omega
              go_wp2_with (at_builtin; refine RowKind.Own.pushK (R := RR) (y := t) HOj.out HQ1.out hzq HQ.out (by decide) rfl _ _ rfl rfl _ rfl hlen ?_; intro v5 w5 hO5 hB5 hz5 hX5)
              go_roundg (N - (j + 1))
              case measure => omega
              case rel =>
                refine ⟨j + 1, by omega, by omega, by go_num, hX5, hB5, ?_⟩
                show RR.Own _ _ _ _
                rw [List.replicate_succ', ← List.append_assoc]
                exact hO5
            · have hjz : ¬ (j : Int) < (N : Int) := by omega
              have : j = N := by omega
              subst this
              go_wp2
              go_roundg (n - (k + 1))
              case measure => omega
              case rel =>
                refine ⟨k + 1, acc ++ List.replicate j t, by omega, by omega, by go_num, by rw [List.length_append, List.length_replicate, HAl.out]; exact hfit, HQ1.out, HOj.out, ?_⟩
                show _ = _
                rw [HS.out]
                simp
      · have hlz : ¬ (k : Int) < (n : Int) := by omega
        have : k = n := by omega
        subst this
        have HE : Hid (acc = recL T) := by
          have h := HA.out
          rw [List.take_of_length_le (by rw [HN.out]; exact Nat.le_refl _)] at h
          exact h
        have HK : Hid (ok = true) := by show _ = _; rw [HOk.out, ← HE.out]; exact decide_eq_true hal
        have HR : Hid (res = acc) := by show _ = _; rw [HLi.out, HK.out, ← HE.out]; rfl
        clear HOk HLi HA HP hrow
        go_wp2
        go_returns
        rw [HK.out, HR.out]
        exact ⟨_, rfl, HO.out.mono HB1.out.size, HB1.out.trans (HB.out.mono HB1.out.size)⟩
end Go.Proofs.Ytmmojohjipmoaaa
