/- what comes of an operator that takes its records one by one, as an iterator: ofEach's closure -/
import Derived.Test.YthhceggcdaljdaaGreatK10
namespace Go.Proofs.YthhceggcdaljdaaGreat
open Go.RowKit Go.Shelf
attribute [local go_sem] Oper.semAt_some
set_option linter.unusedVariables false
set_option linter.unusedSimpArgs false

set_option maxRecDepth 100000 in
set_option maxHeartbeats 8000000 in
theorem ofEach_row {Kp : World → World → Prop} (Br Bl Bb Bx : Nat) (hKp : ∀ A B, Kp A B → KpL Br Bl A B) (k s arg : Int) (q : Option Addr) (c : Nat) (p : List NV) (xs : List IV) (b off cap : Nat) (w : World) (hlB : Bl < w.heap.size) (hrB : Br < w.heap.size) (hptr : ∀ g, rowPtr w Bl = some g → g < w.heap.size)
    (hl : xs.length ≤ 900000) (hpl : k = 2 → p.length ≤ 900000) (hpn : ∀ x ∈ p, inR x.n) (ha : inR arg) (hq : ∀ c ∈ xs, inR c.t.k ∧ inR c.t.v)
    (hw : ∀ W, KpL Br Bl w W → (W.cell? ⟨Bb, 0, none⟩ = some (.slice (some ⟨b, off, none⟩) xs.length cap) ∧ W.cell? ⟨Bx, 0, none⟩ = some (.int .i64 k) ∧ W.cell? ⟨Bx, 1, none⟩ = some (.int .i64 s) ∧ W.cell? ⟨Bx, 2, none⟩ = some (.int .i64 arg) ∧ W.cell? ⟨Bx, 3, none⟩ = some (.slice q p.length c)) ∧ RI.Row W b off xs ∧ b < W.heap.size ∧ RC.Is W (.slice q p.length c) p) :
    Iter Tryz.prog 181 #[.pointer (some ⟨Bb, 0, none⟩), .pointer (some ⟨Bx, 0, none⟩)] encO Kp (eachP k arg p xs) w := fun l J Jx W hW hJ hJx hY hj => by
  have HK0 := Lib.hid (KpL.of_below (Br := Br) hW hlB)
  have hc0 := (hw W HK0.out).1.1
  have HW := Lib.hid hw
  have HXL := Lib.hid hl
  have HP0 : Hid (∀ g, rowPtr W Bl = some g → g < W.heap.size) := HK0.out.lt hptr
  clear hw
  refine (callsIn_wide (n := 3)).1 ?_
  refine callsIn_of_wp Tryz.func181 rfl trivial ?_ rfl
  simp only [Tryz.ntmps181, List.size_toArray, List.length_cons, List.length_nil, Nat.reduceAdd, Nat.reduceSub, Array.replicate_succ, Array.replicate_zero, List.push_toArray, List.append_toArray, List.nil_append, List.cons_append]
  gi_wp2
  gi_loopw [11] (fun i wr => ∃ j : Nat, j ≤ xs.length ∧ i = .int .i64 j ∧ J (eachP k arg p (xs.take j)) wr ∧ Hid (KpL Br Bl w wr) ∧ Hid (∀ g, rowPtr wr Bl = some g → g < wr.heap.size))
    (fun i _ => xs.length - (intOf i).toNat)
  case atStart => exact ⟨0, Nat.zero_le _, rfl, by rw [List.take_zero]; exact hj, HK0.out, HP0.out⟩
  case round =>
    obtain ⟨j, hjn, rfl, hJs, HK, HP⟩ := hrel
    by_cases hlt : j < xs.length
    · have F := HW.out _ HK.out
      have hc := atI F.2.1 j hlt
      have hcq := hq _ (getA_mem hlt)
      have HL8 : Hid ((oneO k arg p xs[j]!.t).length ≤ 8) := oneO_len _ _ _ _
      have HS : Hid (eachP k arg p (xs.take (j + 1)) = eachP k arg p (xs.take j) ++ pairP (oftenO k xs[j]!) (oneO k arg p xs[j]!.t)) := eachP_succ hlt
      have HPf : Hid (∀ m, (eachP k arg p (xs.take j) ++ pairP (oftenO k xs[j]!) ((oneO k arg p xs[j]!.t).take m)) <+: eachP k arg p xs) := fun m => eachP_prefix hlt
      have HONE : Hid (∀ W3, KpL Br Bl w W3 → Calls Tryz.prog 182 #[.agg #[.int .i64 k, .int .i64 s, .int .i64 arg, .slice q p.length c], xs[j]!.t.val] W3 (RR.Made (oneO k arg p xs[j]!.t) W3)) := fun W3 h3 => pone_any k s arg q c p _ W3 hpl (HW.out W3 h3).2.2.2 hpn hcq.1 hcq.2 ha
      obtain ⟨⟨g0, g1, g2, g3, g4⟩, _, hbl, _⟩ := F
      have HA3 : Hid (∀ o : Obj, KpL Br Bl w (wr.alloc o)) := fun o => HK.out.trans (KpL.of_below ((Below.refl _ _).alloc (Nat.le_refl _) o) (Nat.lt_of_lt_of_le hlB HK.out.size))
      generalize oneO k arg p xs[j]!.t = L at *
      generalize hnn : oftenO k xs[j]! = nn at *
      generalize xs[j]! = it at *
      obtain ⟨⟨ik, iv⟩, inn⟩ := it
      obtain ⟨e0, e1, e2⟩ := hc
      simp only at e0 e1 e2
      have hlz : (j : Int) < (xs.length : Int) := by omega
      have hBx := cell_in g1
      have hcq0 : True := trivial
      have hjb : Hid (J (eachP k arg p (xs.take j)) (wr.alloc (.cells #[.int .i64 ik, .int .i64 iv, .int .i64 inn] 57))) := hJ _ wr _ none hJs (World.grownBy_alloc wr _ none) (fun r e => by cases e)
      by_cases h8 : k = 8
      · subst h8
        obtain rfl : nn = 1 := by rw [← hnn]; rfl
        clear hnn hl hpl

        gi_wp2_with (refine ⟨trivial, ?_⟩; gi_at_call 182; refine (callsIn_wide.2 (HONE.out _ (HA3.out _))).mono ?_; rintro e W1 ⟨v1, rfl, hO1, hb1⟩; obtain ⟨p1, c1, rfl⟩ := hO1.is.slice)
        have HKa : Hid (KpL Br Bl wr W1) := (KpL.of_below ((Below.refl _ _).alloc (Nat.le_refl _) _) (Nat.lt_of_lt_of_le hlB HK.out.size)).trans (KpL.of_below hb1 (by have := HK.out.size; simp; omega))
        have HK1 := Lib.hid (HK.out.trans HKa.out)
        have HP1 := Lib.hid (HKa.out.lt HP.out)
        have hj1 : J (eachP 8 arg p (xs.take j)) W1 := hJ _ _ _ none hjb.out (grown_of_below hb1) (fun r e => by cases e)
        have hpt : rowPtr W1 Bl = rowPtr wr Bl := (rowPtr_eq (hb1.block Bl (by have := HK.out.size; simp; omega))).trans (rowPtr_eq (Below.heap_alloc wr _ Bl (Nat.lt_of_lt_of_le hlB HK.out.size)))
        have HAp : Hid (∀ g, (Value.slice p1 L.length c1).ownBlock = some g → g ≠ Br ∧ g ≠ Bl ∧ rowPtr W1 Bl ≠ some g) := fun g e => by
          have h1 := (hO1.lt g e).1
          have h2 := HK.out.size
          rw [World.size_alloc] at h1
          exact ⟨by omega, by omega, fun e2 => by rw [hpt] at e2; have := HP.out g e2; omega⟩
        have HO1 := Lib.hid hO1
        clear hO1 hb1 hpt HONE HA3 hjb HKa e0 e1 e2 g0 g1 g2 g3 g4 hJs hcq
        gi_wp2
        gi_loopw [25] (fun i w2 => ∃ m : Nat, m ≤ L.length ∧ i = .int .i64 m ∧ J (eachP 8 arg p (xs.take j) ++ pairP 1 (L.take m)) w2 ∧ Hid (KpL Br Bl w w2) ∧ Hid (∀ g, rowPtr w2 Bl = some g → g < w2.heap.size) ∧ Hid (RR.Own (wr.heap.size + 1) w2 (.slice p1 L.length c1) L) ∧ Hid (∀ g, (Value.slice p1 L.length c1).ownBlock = some g → g ≠ Br ∧ g ≠ Bl ∧ rowPtr w2 Bl ≠ some g))
          (fun i _ => L.length - (intOf i).toNat)
        case atStart => exact ⟨0, Nat.zero_le _, rfl, by rw [List.take_zero]; show J (_ ++ []) _; rw [List.append_nil]; exact hj1, HK1.out, HP1.out, by have h := HO1.out; rw [World.size_alloc] at h; exact h, HAp.out⟩
        case round =>
          obtain ⟨m, hm, rfl, hJm, HK2, HP2, HO2, HA2⟩ := hrel
          by_cases hltm : m < L.length
          · have hltz : (m : Int) < (L.length : Int) := by omega
            have hpp : ∃ g1, p1 = some ⟨g1, 0, none⟩ := by
              rcases HO2.out.2 with ⟨e, h0⟩ | ⟨g, cap', cur, e, _⟩
              · omega
              · cases e; exact ⟨g, rfl⟩
            obtain ⟨gg, rfl⟩ := hpp
            have hcr := atR (own_rowR HO2.out).1 m hltm
            rw [Nat.zero_add] at hcr
            have HPS : Hid (pairP 1 (L.take (m + 1)) = pairP 1 (L.take m) ++ [(L[m]!, 1)]) := pairP_succ hltm
            have hgg : gg < wr.heap.size := cell_in hcr.1
            have HPX : Hid ((eachP 8 arg p (xs.take j) ++ pairP 1 (L.take m)) ++ [(L[m]!, 1)] <+: eachP 8 arg p xs) := by
              have h := HPf.out (m + 1)
              rw [HPS.out, ← List.append_assoc] at h
              exact h
            obtain ⟨fn, tmps, assign, body, hy, hR⟩ := (yield_any (hY _ (L[m]!, 1) (wr.alloc (.cells #[.int .i64 L[m]!.k, .int .i64 L[m]!.v] 27)) HPX.out (hJ _ wr _ none hJm (World.grownBy_alloc wr _ none) (fun r e => by cases e)))).1 2
            dsimp only [encO] at hy
            have Hka : Hid (KpL Br Bl wr (wr.alloc (.cells #[.int .i64 L[m]!.k, .int .i64 L[m]!.v] 27))) := KpL.of_below ((Below.refl _ _).alloc (Nat.le_refl _) _) (Nat.lt_of_lt_of_le hlB HK2.out.size)
            generalize L[m]! = r at *
            obtain ⟨rk, rv⟩ := r
            obtain ⟨f0, f1⟩ := hcr
            simp only at f0 f1
            gi_wp2
            refine hR.mono ?_
            rintro e W5 (⟨rfl, hJ5, hk5⟩ | ⟨rfl, hJx5⟩)
            · replace hk5 := hKp _ _ hk5.1
              have hk := Hka.out.trans hk5
              have HK5 := Lib.hid (HK2.out.trans hk)
              have HP5 := Lib.hid (hk.lt HP2.out)
              have HO5 := Lib.hid (hk.own HO2.out HA2.out)
              have HA5 : Hid (∀ g, (Value.slice (some ⟨gg, 0, none⟩) L.length c1).ownBlock = some g → g ≠ Br ∧ g ≠ Bl ∧ rowPtr W5 Bl ≠ some g) := fun g e => ⟨(HA2.out g e).1, (HA2.out g e).2.1, hk.apart (HO2.out.lt g e).2 (HA2.out g e).2.2⟩
              rw [List.append_assoc, ← HPS.out] at hJ5
              clear hk hk5 hR hy hcq0
              gi_wp2
              go_roundw
              case rel => exact ⟨m + 1, by omega, by have h8 := HL8.out; rw [wrap_in (by unfold inR; omega)]; rfl, hJ5, HK5.out, HP5.out, HO5.out, HA5.out⟩
              case measure => have h8 := HL8.out; rw [wrap_in (by unfold inR; omega)]; simp [intOf]; omega
            · gi_wp2
              refine bodyPost_ret (results_none rfl _ _ _) rfl ?_
              exact ⟨⟨_, rfl⟩, .inr ⟨_, HPX.out, hJx5.1⟩⟩
          · obtain rfl : m = L.length := by omega
            rw [List.take_length, ← HS.out] at hJm
            gi_wp2
            go_roundw
            case rel => exact ⟨j + 1, by omega, by have hl := HXL.out; rw [wrap_in (by unfold inR; omega)]; rfl, hJm, HK2.out, HP2.out⟩
            case measure => have hl := HXL.out; rw [wrap_in (by unfold inR; omega)]; simp [intOf]; omega
      · obtain rfl : inn = nn := by rw [← hnn]; exact (if_neg h8).symm
        clear hnn hl hpl

        gi_wp2_with (refine ⟨trivial, ?_⟩; gi_at_call 182; refine (callsIn_wide.2 (HONE.out _ (HA3.out _))).mono ?_; rintro e W1 ⟨v1, rfl, hO1, hb1⟩; obtain ⟨p1, c1, rfl⟩ := hO1.is.slice)
        have HKa : Hid (KpL Br Bl wr W1) := (KpL.of_below ((Below.refl _ _).alloc (Nat.le_refl _) _) (Nat.lt_of_lt_of_le hlB HK.out.size)).trans (KpL.of_below hb1 (by have := HK.out.size; simp; omega))
        have HK1 := Lib.hid (HK.out.trans HKa.out)
        have HP1 := Lib.hid (HKa.out.lt HP.out)
        have hj1 : J (eachP k arg p (xs.take j)) W1 := hJ _ _ _ none hjb.out (grown_of_below hb1) (fun r e => by cases e)
        have hpt : rowPtr W1 Bl = rowPtr wr Bl := (rowPtr_eq (hb1.block Bl (by have := HK.out.size; simp; omega))).trans (rowPtr_eq (Below.heap_alloc wr _ Bl (Nat.lt_of_lt_of_le hlB HK.out.size)))
        have HAp : Hid (∀ g, (Value.slice p1 L.length c1).ownBlock = some g → g ≠ Br ∧ g ≠ Bl ∧ rowPtr W1 Bl ≠ some g) := fun g e => by
          have h1 := (hO1.lt g e).1
          have h2 := HK.out.size
          rw [World.size_alloc] at h1
          exact ⟨by omega, by omega, fun e2 => by rw [hpt] at e2; have := HP.out g e2; omega⟩
        have HO1 := Lib.hid hO1
        clear hO1 hb1 hpt HONE HA3 hjb HKa e0 e1 e2 g0 g1 g2 g3 g4 hJs hcq
        gi_wp2
        gi_loopw [25] (fun i w2 => ∃ m : Nat, m ≤ L.length ∧ i = .int .i64 m ∧ J (eachP k arg p (xs.take j) ++ pairP inn (L.take m)) w2 ∧ Hid (KpL Br Bl w w2) ∧ Hid (∀ g, rowPtr w2 Bl = some g → g < w2.heap.size) ∧ Hid (RR.Own (wr.heap.size + 1) w2 (.slice p1 L.length c1) L) ∧ Hid (∀ g, (Value.slice p1 L.length c1).ownBlock = some g → g ≠ Br ∧ g ≠ Bl ∧ rowPtr w2 Bl ≠ some g))
          (fun i _ => L.length - (intOf i).toNat)
        case atStart => exact ⟨0, Nat.zero_le _, rfl, by rw [List.take_zero]; show J (_ ++ []) _; rw [List.append_nil]; exact hj1, HK1.out, HP1.out, by have h := HO1.out; rw [World.size_alloc] at h; exact h, HAp.out⟩
        case round =>
          obtain ⟨m, hm, rfl, hJm, HK2, HP2, HO2, HA2⟩ := hrel
          by_cases hltm : m < L.length
          · have hltz : (m : Int) < (L.length : Int) := by omega
            have hpp : ∃ g1, p1 = some ⟨g1, 0, none⟩ := by
              rcases HO2.out.2 with ⟨e, h0⟩ | ⟨g, cap', cur, e, _⟩
              · omega
              · cases e; exact ⟨g, rfl⟩
            obtain ⟨gg, rfl⟩ := hpp
            have hcr := atR (own_rowR HO2.out).1 m hltm
            rw [Nat.zero_add] at hcr
            have HPS : Hid (pairP inn (L.take (m + 1)) = pairP inn (L.take m) ++ [(L[m]!, inn)]) := pairP_succ hltm
            have hgg : gg < wr.heap.size := cell_in hcr.1
            have HPX : Hid ((eachP k arg p (xs.take j) ++ pairP inn (L.take m)) ++ [(L[m]!, inn)] <+: eachP k arg p xs) := by
              have h := HPf.out (m + 1)
              rw [HPS.out, ← List.append_assoc] at h
              exact h
            obtain ⟨fn, tmps, assign, body, hy, hR⟩ := (yield_any (hY _ (L[m]!, inn) (wr.alloc (.cells #[.int .i64 L[m]!.k, .int .i64 L[m]!.v] 27)) HPX.out (hJ _ wr _ none hJm (World.grownBy_alloc wr _ none) (fun r e => by cases e)))).1 2
            dsimp only [encO] at hy
            have Hka : Hid (KpL Br Bl wr (wr.alloc (.cells #[.int .i64 L[m]!.k, .int .i64 L[m]!.v] 27))) := KpL.of_below ((Below.refl _ _).alloc (Nat.le_refl _) _) (Nat.lt_of_lt_of_le hlB HK2.out.size)
            generalize L[m]! = r at *
            obtain ⟨rk, rv⟩ := r
            obtain ⟨f0, f1⟩ := hcr
            simp only at f0 f1
            gi_wp2
            refine hR.mono ?_
            rintro e W5 (⟨rfl, hJ5, hk5⟩ | ⟨rfl, hJx5⟩)
            · replace hk5 := hKp _ _ hk5.1
              have hk := Hka.out.trans hk5
              have HK5 := Lib.hid (HK2.out.trans hk)
              have HP5 := Lib.hid (hk.lt HP2.out)
              have HO5 := Lib.hid (hk.own HO2.out HA2.out)
              have HA5 : Hid (∀ g, (Value.slice (some ⟨gg, 0, none⟩) L.length c1).ownBlock = some g → g ≠ Br ∧ g ≠ Bl ∧ rowPtr W5 Bl ≠ some g) := fun g e => ⟨(HA2.out g e).1, (HA2.out g e).2.1, hk.apart (HO2.out.lt g e).2 (HA2.out g e).2.2⟩
              rw [List.append_assoc, ← HPS.out] at hJ5
              clear hk hk5 hR hy hcq0
              gi_wp2
              go_roundw
              case rel => exact ⟨m + 1, by omega, by have h8 := HL8.out; rw [wrap_in (by unfold inR; omega)]; rfl, hJ5, HK5.out, HP5.out, HO5.out, HA5.out⟩
              case measure => have h8 := HL8.out; rw [wrap_in (by unfold inR; omega)]; simp [intOf]; omega
            · gi_wp2
              refine bodyPost_ret (results_none rfl _ _ _) rfl ?_
              exact ⟨⟨_, rfl⟩, .inr ⟨_, HPX.out, hJx5.1⟩⟩
          · obtain rfl : m = L.length := by omega
            rw [List.take_length, ← HS.out] at hJm
            gi_wp2
            go_roundw
            case rel => exact ⟨j + 1, by omega, by have hl := HXL.out; rw [wrap_in (by unfold inR; omega)]; rfl, hJm, HK2.out, HP2.out⟩
            case measure => have hl := HXL.out; rw [wrap_in (by unfold inR; omega)]; simp [intOf]; omega
    · obtain rfl : j = xs.length := by omega
      rw [List.take_length] at hJs
      gi_wp2
      go_end0
      exact ⟨⟨_, rfl⟩, .inl hJs⟩
end Go.Proofs.YthhceggcdaljdaaGreat
