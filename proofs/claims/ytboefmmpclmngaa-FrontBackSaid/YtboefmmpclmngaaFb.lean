import Derived.Test.YtboefmmpclmngaaFk
import Derived.Test.YtboefmmpclmngaaFg
import Derived.Deep.RegionHeldLaw
namespace Go.Proofs.Ytboefmmpclmngaa
open Go.RowKit
set_option linter.unusedVariables false
set_option linter.unusedSimpArgs false
attribute [local go_sem ↓] eqTime neTime run_imin

/- the law FrontBack -/
theorem cutToB (b n : Nat) (hb : 0 < b) : ∃ m : Nat, imin (n : Int) (b : Int) = (m : Int) ∧ m ≤ n ∧ m ≤ b ∧ (m = 0 → n = 0) := by
  unfold imin
  split
  · exact ⟨b, rfl, by omega, by omega, by omega⟩
  · exact ⟨n, rfl, by omega, by omega, by omega⟩
theorem front_length0 (f : List CV) : (frontC f).length ≤ f.length := by
  unfold frontC
  split
  · exact Nat.le_trans (ofT_length _) (there_length f)
  · simp
set_option maxRecDepth 100000 in
set_option maxHeartbeats 3000000 in
theorem frontBack_walk (ls : List CV) (turned : Bool) (va : Value) (w : World) (ha : RH.Is w va ls) (ca : capOk va) (hin : ∀ c ∈ ls, inH c) :
    Calls Try.prog 7 #[va, .bool turned] w (Ret (.bool true) w) := by
  obtain ⟨p1, c1, rfl⟩ := ha.slice
  have k1 := ca _ _ _ rfl
  clear ca
  generalize ls.length = n1 at *
  have HA := Lib.hid ha
  clear ha
  obtain ⟨m1, e1, l1, h1, z1⟩ := cutToB 100 n1 (by decide)
  have e1 : imin (n1 : Int) 100 = (m1 : Int) := e1
  have d1 : m1 ≤ c1 := by omega
  have HA2 := Lib.hid (HA.out.cut m1 l1 z1)
  have hlen : (ls.take m1).length = m1 := by
    obtain ⟨a, b, e⟩ := HA2.out.slice
    simp only [Value.slice.injEq] at e
    exact e.2.1.symm
  have HIn : Hid (∀ c ∈ ls.take m1, inH c) := fun c hc => hin c (List.mem_of_mem_take hc)
  clear l1 z1 HA k1 hin
  have HAW := Lib.hid frontAwake
  go_enter Try.func7, Try.ntmps7
  go_wp2_with fail
  refine (HAW.out _).mono ?_
  rintro e w1 ⟨rfl, hb1⟩
  have HA3 := Lib.hid (HA2.out.below hb1)
  have HW1 := Lib.hid hb1
  clear hb1 HAW HA2
  generalize ls.take m1 = L at *
  have HLn := Lib.hid hlen
  clear hlen
  have hm100 : m1 ≤ 100 := h1
  go_wp2
  go_loopg [5, 6, 7] m1 (fun gg vf vt vi wr => ∃ (k : Nat) (fs : List CV), k ≤ m1 ∧ m1 - k ≤ gg ∧ vi = .int .i64 k ∧ vt = .int .i64 (tots (L.take k)) ∧ Hid (RC.Is wr vf fs) ∧ Hid (capOk vf) ∧ Hid (Up L k fs) ∧ Hid (Below w1.heap.size w1 wr))
  case atStart => exact ⟨0, [], Nat.zero_le _, by omega, rfl, rfl, RowKind.Is.nil _, fun p n c e => by cases e; exact Nat.le_refl _, Up.zero L, Below.refl _ _⟩
  case round =>
    obtain ⟨k, fs, hkn, hgk, rfl, rfl, HF, HC, HU, HB⟩ := hrel
    by_cases hlt : k < m1
    · have hlz : (k : Int) < (m1 : Int) := by omega
      have hkL : k < L.length := by rw [HLn.out]; exact hlt
      have hL100 : L.length ≤ 100 := by rw [HLn.out]; exact hm100
      rcases HA3.out with ⟨h0, _⟩ | ⟨_, b, off, cap, eq3, hbl, hrow⟩
      · rw [h0] at hkL; simp at hkL
      simp only [Value.slice.injEq] at eq3
      obtain ⟨rfl, hnx, rfl⟩ := eq3; clear hnx
      have hHK := fun W (hW : Below w1.heap.size w1 W) => atH (hrow.below hW hbl) k hkL
      have HU1 := Lib.hid (Up.succ HIn.out hL100 HU.out hkL)
      have hcin := HIn.out L[k]! (by rw [getElem!_pos L k hkL]; exact List.getElem_mem hkL)
      have hts : tots (L.take (k + 1)) = tots (L.take k) + tots [L[k]!] := by rw [take_getA L k hkL, tots_append]
      have htb := tots_bound (L.take k) (fun c hc => HIn.out c (List.mem_of_mem_take hc))
      have hln : ((L.take k).length : Int) ≤ 100 := by rw [List.length_take]; omega
      have hfl : fs.length ≤ 400000 := by have := HU.out.len; omega
      rw [tots_one] at hts
      generalize L[k]! = c at hHK HU1 hcin hts
      obtain ⟨t, n⟩ := c
      simp only at hHK HU1 hcin hts
      obtain ⟨hn1, hn2⟩ := hcin
      simp only at hn1 hn2
      have HWR : Hid (IntKind.i64.wrap n = n) := by show _ = _; rw [IntKind.wrap_i64]; omega
      have HADD : Hid (∀ W v, RC.Is W v fs → capOk v → Calls Try.prog 31 #[v, .agg #[.int .i64 t.d, .int .i64 t.c0, .int .i64 t.c1, .int .i64 t.c2, .int .i64 t.c3], .int .i64 (IntKind.i64.wrap n)] W (AnsC (addC fs t n) W)) := fun W v h1 h2 => by
        rw [HWR.out]
        exact frontAdd_any fs t n v W hfl h2 h1
      have HOK := Lib.hid (fun W => ok_any t W)
      generalize addC fs t n = gs at HU1 HADD
      generalize htk : tots (L.take k) = s at *
      have hs1 : -3276800 ≤ s := by omega
      have hs2 : s ≤ 3276800 := by omega
      have a1 : -9223372036854775808 ≤ s + n := by omega
      have a2 : s + n ≤ 9223372036854775807 := by omega
      have HTS := Lib.hid hts
      clear hts htb hln htk hfl HU hrow hbl
      have HK : Hid (∀ W, Below wr.heap.size wr W → W.cell? ⟨b, off + k * 6, none⟩ = some (.int .i64 t.d) ∧ W.cell? ⟨b, off + k * 6 + 1, none⟩ = some (.int .i64 t.c0) ∧ W.cell? ⟨b, off + k * 6 + 2, none⟩ = some (.int .i64 t.c1) ∧ W.cell? ⟨b, off + k * 6 + 3, none⟩ = some (.int .i64 t.c2) ∧ W.cell? ⟨b, off + k * 6 + 4, none⟩ = some (.int .i64 t.c3) ∧ W.cell? ⟨b, off + k * 6 + 5, none⟩ = some (.int .i16 n)) := fun W hW => hHK W (HB.out.trans (hW.mono HB.out.size))
      obtain ⟨e0, e1, e2, e3, e4, e5⟩ := HK.out wr (Below.refl _ _)
      clear hHK
      have HFd : Hid (RC.Is wr.drew u5 fs) := HF.out
      go_wp2_with fail
      go_region_held_law (fun w' => w'.cell? ⟨b, off + k * 6, none⟩ = some (.int .i64 t.d) ∧ w'.cell? ⟨b, off + k * 6 + 1, none⟩ = some (.int .i64 t.c0) ∧ w'.cell? ⟨b, off + k * 6 + 2, none⟩ = some (.int .i64 t.c1) ∧ w'.cell? ⟨b, off + k * 6 + 3, none⟩ = some (.int .i64 t.c2) ∧ w'.cell? ⟨b, off + k * 6 + 4, none⟩ = some (.int .i64 t.c3) ∧ w'.cell? ⟨b, off + k * 6 + 5, none⟩ = some (.int .i16 n)) (first | (with_reducible exact HK.out _ (by assumption)) | go_keep) (first
        | (go_at_call 31; refine (HADD.out _ _ HFd.out HC.out).mono ?_; rintro e wa ⟨va, rfl, hIa, hCa, hBa⟩; have hB1 : Below wr.heap.size wr wa := bcall (Below.refl _ _).drew hBa (Nat.le_refl _)))
      all_goals
        have HIa := Lib.hid hIa; have HCa := Lib.hid hCa
        have HBa := Lib.hid (HB.out.trans (hB1.mono HB.out.size))
        obtain ⟨f0, f1, f2, f3, f4, f5⟩ := HK.out wa hB1
        clear e0 e1 e2 e3 e4 e5 hIa hCa hBa hB1 HF HC HFd HADD HB
        try simp only [List.getElem_toArray, List.getElem_cons_succ, List.getElem_cons_zero, Act.put, List.setIfInBounds_toArray, List.set_cons_zero, List.set_cons_succ]
        have hwr := HWR.out
        have hHK2 := HK.out
        go_wp2_with fail
        refine (HOK.out _).mono ?_
        rintro e wb ⟨rfl, hBb⟩
        have HIb := Lib.hid (HIa.out.below hBb)
        have HBb := Lib.hid (HBa.out.trans (hBb.mono HBa.out.size))
        have hc5 := (hBb.cell (p := ⟨b, off + k * 6 + 5, none⟩) (World.block_lt_of_cell? _ _ f5)).trans f5
        clear f0 f1 f2 f3 f4 f5 hBb HIa HBa hHK2 HK
        cases hq : t.ok
        · rw [hq] at HTS
          have HS : Hid (tots (L.take (k + 1)) = s) := by show _ = _; rw [HTS.out]; simp
          clear HTS HOK hq
          go_wp2
          go_roundg (m1 - (k + 1))
          case measure => omega
          case rel => exact ⟨k + 1, gs, by omega, by omega, by go_num, by rw [HS.out], HIb.out, HCa.out, HU1.out, HBb.out⟩
        · rw [hq] at HTS
          have HS : Hid (tots (L.take (k + 1)) = s + n) := by show _ = _; rw [HTS.out]; simp
          clear HTS HOK hq
          go_wp2
          go_roundg (m1 - (k + 1))
          case measure => omega
          case rel => exact ⟨k + 1, gs, by omega, by omega, by go_num, by rw [HS.out], HIb.out, HCa.out, HU1.out, HBb.out⟩
    · have hlz : ¬ (k : Int) < (m1 : Int) := by omega
      have : m1 = k := by omega
      subst this
      have hU := HU.out
      have hfl : fs.length ≤ 900000 := by have := hU.len; omega
      have hgood := (rightC_iff fs).2 hU.good
      have hsum : totC fs = tots (L.take m1) := by unfold totC; rw [if_pos hgood]; exact hU.sum
      have HRt : Hid (∀ q : Beh wr, Calls Try.prog 28 #[u5] q.w (Ret (.bool true) q.w)) := fun q => by
        have h := fright_any fs u5 q.w hfl (HF.out.below q.h)
        rw [hgood] at h
        exact h
      have HTt : Hid (∀ q : Beh wr, Calls Try.prog 37 #[u5] q.w (Ret (.int .i64 (tots (L.take m1))) q.w)) := fun q => by
        have h := total_any fs u5 q.w hfl (HF.out.below q.h)
        rw [hsum] at h
        exact h
      have HUl : Hid (Up L L.length fs) := by have h := HU.out; rw [← HLn.out] at h; exact h
      clear hU hfl hgood hsum HU
      generalize tots (L.take m1) = s at *
      go_wp2_with fail
      refine (HRt.out ⟨wr, Below.refl _ _⟩).mono ?_
      rintro e wx ⟨rfl, hbx⟩
      go_wp2_with fail
      refine (HTt.out ⟨wx, hbx⟩).mono ?_
      rintro e w2 ⟨rfl, hby⟩
      have hb2 := hbx.trans (hby.mono hbx.size)
      have HF2 := Lib.hid (HF.out.below hb2)
      have HB2 := Lib.hid (HB.out.trans (hb2.mono HB.out.size))
      clear HRt HTt HF HB hbx hby hb2
      have hss : (s != s) = false := by simp
      cases turned
      · go_wp2
        go_loopg [5, 8] m1 (fun gg vf vi wr => ∃ (k : Nat) (gs : List CV), k ≤ m1 ∧ m1 - k ≤ gg ∧ vi = .int .i64 k ∧ Hid (RC.Is wr vf gs) ∧ Hid (capOk vf) ∧ Hid (Down L (ordC L false) k gs) ∧ Hid (Below w1.heap.size w1 wr))
        case atStart => exact ⟨0, fs, Nat.zero_le _, by omega, rfl, HF2.out, HC.out, Up.down HUl.out, HB2.out⟩
        case round =>
          clear HF2 HC HUl HB2
          obtain ⟨k, gs, hkn, hgk, rfl, HF, HC, HD, HB⟩ := hrel
          by_cases hlt : k < m1
          · have hlz : (k : Int) < (m1 : Int) := by omega
            have hL100 : L.length ≤ 100 := by rw [HLn.out]; exact hm100

            have hkL : k < L.length := by rw [HLn.out]; omega
            have hjL : k < L.length := by rw [HLn.out]; omega
            rcases HA3.out with ⟨h0, _⟩ | ⟨_, b, off, cap, eq3, hbl, hrow⟩
            · rw [h0] at hkL; simp at hkL
            simp only [Value.slice.injEq] at eq3
            obtain ⟨rfl, hnx, rfl⟩ := eq3; clear hnx
            have hHK := fun W (hW : Below w1.heap.size w1 W) => atH (hrow.below hW hbl) k hjL
            have hD1 := Down.succ HIn.out (ord_in false HIn.out) hL100 (by rw [ord_len]; exact hL100) HD.out (by rw [ord_len]; exact hkL)
            have hoe : (ordC L false)[k]! = L[k]! := by
              rw [ord_at hkL]
              rfl
            rw [hoe] at hD1
            have HD1 := Lib.hid hD1
            have hcin := HIn.out L[k]! (by rw [getElem!_pos L k hjL]; exact List.getElem_mem hjL)
            have hfl : gs.length ≤ 400000 := by have := HD.out.len; omega
            clear hD1 hoe
            generalize L[k]! = c at hHK HD1 hcin
            obtain ⟨t, n⟩ := c
            simp only at hHK HD1 hcin
            obtain ⟨hn1, hn2⟩ := hcin
            simp only at hn1 hn2
            have HWR : Hid (IntKind.i64.wrap (-(IntKind.i64.wrap n)) = -n) := by show _ = _; rw [IntKind.wrap_i64, IntKind.wrap_i64]; omega
            have HADD : Hid (∀ W v, RC.Is W v gs → capOk v → Calls Try.prog 31 #[v, .agg #[.int .i64 t.d, .int .i64 t.c0, .int .i64 t.c1, .int .i64 t.c2, .int .i64 t.c3], .int .i64 (IntKind.i64.wrap (-(IntKind.i64.wrap n)))] W (AnsC (addC gs t (-n)) W)) := fun W v h1 h2 => by
              rw [HWR.out]
              exact frontAdd_any gs t (-n) v W hfl h2 h1
            generalize addC gs t (-n) = hs at HD1 HADD
            clear hfl HD hrow hbl
            have HK : Hid (∀ W, Below wr.heap.size wr W → W.cell? ⟨b, off + k * 6, none⟩ = some (.int .i64 t.d) ∧ W.cell? ⟨b, off + k * 6 + 1, none⟩ = some (.int .i64 t.c0) ∧ W.cell? ⟨b, off + k * 6 + 2, none⟩ = some (.int .i64 t.c1) ∧ W.cell? ⟨b, off + k * 6 + 3, none⟩ = some (.int .i64 t.c2) ∧ W.cell? ⟨b, off + k * 6 + 4, none⟩ = some (.int .i64 t.c3) ∧ W.cell? ⟨b, off + k * 6 + 5, none⟩ = some (.int .i16 n)) := fun W hW => hHK W (HB.out.trans (hW.mono HB.out.size))
            obtain ⟨e0, e1, e2, e3, e4, e5⟩ := HK.out wr (Below.refl _ _)
            clear hHK
            have HFd : Hid (RC.Is wr.drew u5 gs) := HF.out
            go_wp2_with fail
            go_region_held_law (fun w' => w'.cell? ⟨b, off + k * 6, none⟩ = some (.int .i64 t.d) ∧ w'.cell? ⟨b, off + k * 6 + 1, none⟩ = some (.int .i64 t.c0) ∧ w'.cell? ⟨b, off + k * 6 + 2, none⟩ = some (.int .i64 t.c1) ∧ w'.cell? ⟨b, off + k * 6 + 3, none⟩ = some (.int .i64 t.c2) ∧ w'.cell? ⟨b, off + k * 6 + 4, none⟩ = some (.int .i64 t.c3) ∧ w'.cell? ⟨b, off + k * 6 + 5, none⟩ = some (.int .i16 n)) (first | (with_reducible exact HK.out _ (by assumption)) | go_keep) (first
              | (go_at_call 31; refine (HADD.out _ _ HFd.out HC.out).mono ?_; rintro e wa ⟨va, rfl, hIa, hCa, hBa⟩; have hB1 : Below wr.heap.size wr wa := bcall (Below.refl _ _).drew hBa (Nat.le_refl _)))
            all_goals
              have HIa := Lib.hid hIa; have HCa := Lib.hid hCa
              have HBa := Lib.hid (HB.out.trans (hB1.mono HB.out.size))
              clear e0 e1 e2 e3 e4 e5 hIa hCa hBa hB1 HF HC HFd HADD HB HK
              try simp only [List.getElem_toArray, List.getElem_cons_succ, List.getElem_cons_zero, Act.put, List.setIfInBounds_toArray, List.set_cons_zero, List.set_cons_succ]
              go_wp2
              go_roundg (m1 - (k + 1))
              case measure => omega
              case rel => exact ⟨k + 1, hs, by omega, by omega, by go_num, HIa.out, HCa.out, HD1.out, HBa.out⟩
          · have hlz : ¬ (k : Int) < (m1 : Int) := by omega
            have : m1 = k := by omega
            subst this
            have hgs : gs = [] := by
              have h := HD.out
              rw [← HLn.out] at h
              exact h.end
            subst hgs
            have hX := HF.out
            have HTt : Hid (∀ W, Below wr.heap.size wr W → Calls Try.prog 37 #[u5] W (Ret (.int .i64 0) W)) := fun W hW => by
              have h := total_any [] u5 W (by decide) (hX.below hW)
              exact h
            have HFf : Hid (∀ W, Below wr.heap.size wr W → Calls Try.prog 38 #[u5] W (MadeT [] W)) := fun W hW => by
              have h := frontier_any [] u5 W (by decide) (hX.below hW)
              have hf : frontC [] = [] := List.eq_nil_of_length_eq_zero (Nat.le_zero.1 (front_length0 []))
              rw [hf] at h
              exact h
            obtain ⟨p5, c5, rfl⟩ := hX.slice
            have HBf := Lib.hid (HW1.out.trans (HB.out.mono HW1.out.size))
            clear hX HF HD HB HC
            go_wp2_with fail
            refine (HTt.out wr (Below.refl _ _)).mono ?_
            rintro e wx ⟨rfl, hbx⟩
            have HBx := Lib.hid hbx
            clear hbx HTt
            go_wp2_with fail
            refine (HFf.out wx HBx.out).mono ?_
            rintro e wy ⟨vy, rfl, hOy, hby⟩
            obtain ⟨p6, c6, rfl⟩ := hOy.is.slice
            have HBy := Lib.hid (HBf.out.trans ((HBx.out.trans (hby.mono HBx.out.size)).mono HBf.out.size))
            clear hOy hby HFf HBx HBf
            go_wp2
            go_returns
            exact ⟨rfl, HBy.out⟩
      · go_wp2
        go_loopg [5, 8] m1 (fun gg vf vi wr => ∃ (k : Nat) (gs : List CV), k ≤ m1 ∧ m1 - k ≤ gg ∧ vi = .int .i64 k ∧ Hid (RC.Is wr vf gs) ∧ Hid (capOk vf) ∧ Hid (Down L (ordC L true) k gs) ∧ Hid (Below w1.heap.size w1 wr))
        case atStart => exact ⟨0, fs, Nat.zero_le _, by omega, rfl, HF2.out, HC.out, Up.down HUl.out, HB2.out⟩
        case round =>
          clear HF2 HC HUl HB2
          obtain ⟨k, gs, hkn, hgk, rfl, HF, HC, HD, HB⟩ := hrel
          by_cases hlt : k < m1
          · have hlz : (k : Int) < (m1 : Int) := by omega
            have hL100 : L.length ≤ 100 := by rw [HLn.out]; exact hm100
            obtain ⟨j, rfl⟩ : ∃ j, m1 = j + k + 1 := ⟨m1 - 1 - k, by omega⟩
            have hkL : k < L.length := by rw [HLn.out]; omega
            have hjL : j < L.length := by rw [HLn.out]; omega
            rcases HA3.out with ⟨h0, _⟩ | ⟨_, b, off, cap, eq3, hbl, hrow⟩
            · rw [h0] at hkL; simp at hkL
            simp only [Value.slice.injEq] at eq3
            obtain ⟨rfl, hnx, rfl⟩ := eq3; clear hnx
            have hHK := fun W (hW : Below w1.heap.size w1 W) => atH (hrow.below hW hbl) j hjL
            have hD1 := Down.succ HIn.out (ord_in true HIn.out) hL100 (by rw [ord_len]; exact hL100) HD.out (by rw [ord_len]; exact hkL)
            have hoe : (ordC L true)[k]! = L[j]! := by
              rw [ord_at hkL]
              simp only [if_true]; rw [show L.length - 1 - k = j by rw [HLn.out]; omega]
            rw [hoe] at hD1
            have HD1 := Lib.hid hD1
            have hcin := HIn.out L[j]! (by rw [getElem!_pos L j hjL]; exact List.getElem_mem hjL)
            have hfl : gs.length ≤ 400000 := by have := HD.out.len; omega
            clear hD1 hoe
            generalize L[j]! = c at hHK HD1 hcin
            obtain ⟨t, n⟩ := c
            simp only at hHK HD1 hcin
            obtain ⟨hn1, hn2⟩ := hcin
            simp only at hn1 hn2
            have HWR : Hid (IntKind.i64.wrap (-(IntKind.i64.wrap n)) = -n) := by show _ = _; rw [IntKind.wrap_i64, IntKind.wrap_i64]; omega
            have HADD : Hid (∀ W v, RC.Is W v gs → capOk v → Calls Try.prog 31 #[v, .agg #[.int .i64 t.d, .int .i64 t.c0, .int .i64 t.c1, .int .i64 t.c2, .int .i64 t.c3], .int .i64 (IntKind.i64.wrap (-(IntKind.i64.wrap n)))] W (AnsC (addC gs t (-n)) W)) := fun W v h1 h2 => by
              rw [HWR.out]
              exact frontAdd_any gs t (-n) v W hfl h2 h1
            generalize addC gs t (-n) = hs at HD1 HADD
            clear hfl HD hrow hbl
            have HK : Hid (∀ W, Below wr.heap.size wr W → W.cell? ⟨b, off + j * 6, none⟩ = some (.int .i64 t.d) ∧ W.cell? ⟨b, off + j * 6 + 1, none⟩ = some (.int .i64 t.c0) ∧ W.cell? ⟨b, off + j * 6 + 2, none⟩ = some (.int .i64 t.c1) ∧ W.cell? ⟨b, off + j * 6 + 3, none⟩ = some (.int .i64 t.c2) ∧ W.cell? ⟨b, off + j * 6 + 4, none⟩ = some (.int .i64 t.c3) ∧ W.cell? ⟨b, off + j * 6 + 5, none⟩ = some (.int .i16 n)) := fun W hW => hHK W (HB.out.trans (hW.mono HB.out.size))
            obtain ⟨e0, e1, e2, e3, e4, e5⟩ := HK.out wr (Below.refl _ _)
            clear hHK
            have HFd : Hid (RC.Is wr.drew u5 gs) := HF.out
            go_wp2_with fail
            go_region_held_law (fun w' => w'.cell? ⟨b, off + j * 6, none⟩ = some (.int .i64 t.d) ∧ w'.cell? ⟨b, off + j * 6 + 1, none⟩ = some (.int .i64 t.c0) ∧ w'.cell? ⟨b, off + j * 6 + 2, none⟩ = some (.int .i64 t.c1) ∧ w'.cell? ⟨b, off + j * 6 + 3, none⟩ = some (.int .i64 t.c2) ∧ w'.cell? ⟨b, off + j * 6 + 4, none⟩ = some (.int .i64 t.c3) ∧ w'.cell? ⟨b, off + j * 6 + 5, none⟩ = some (.int .i16 n)) (first | (with_reducible exact HK.out _ (by assumption)) | go_keep) (first
              | (go_at_call 31; refine (HADD.out _ _ HFd.out HC.out).mono ?_; rintro e wa ⟨va, rfl, hIa, hCa, hBa⟩; have hB1 : Below wr.heap.size wr wa := bcall (Below.refl _ _).drew hBa (Nat.le_refl _)))
            all_goals
              have HIa := Lib.hid hIa; have HCa := Lib.hid hCa
              have HBa := Lib.hid (HB.out.trans (hB1.mono HB.out.size))
              clear e0 e1 e2 e3 e4 e5 hIa hCa hBa hB1 HF HC HFd HADD HB HK
              try simp only [List.getElem_toArray, List.getElem_cons_succ, List.getElem_cons_zero, Act.put, List.setIfInBounds_toArray, List.set_cons_zero, List.set_cons_succ]
              go_wp2
              go_roundg ((j + k + 1) - (k + 1))
              case measure => omega
              case rel => exact ⟨k + 1, hs, by omega, by omega, by go_num, HIa.out, HCa.out, HD1.out, HBa.out⟩
          · have hlz : ¬ (k : Int) < (m1 : Int) := by omega
            have : m1 = k := by omega
            subst this
            have hgs : gs = [] := by
              have h := HD.out
              rw [← HLn.out] at h
              exact h.end
            subst hgs
            have hX := HF.out
            have HTt : Hid (∀ W, Below wr.heap.size wr W → Calls Try.prog 37 #[u5] W (Ret (.int .i64 0) W)) := fun W hW => by
              have h := total_any [] u5 W (by decide) (hX.below hW)
              exact h
            have HFf : Hid (∀ W, Below wr.heap.size wr W → Calls Try.prog 38 #[u5] W (MadeT [] W)) := fun W hW => by
              have h := frontier_any [] u5 W (by decide) (hX.below hW)
              have hf : frontC [] = [] := List.eq_nil_of_length_eq_zero (Nat.le_zero.1 (front_length0 []))
              rw [hf] at h
              exact h
            obtain ⟨p5, c5, rfl⟩ := hX.slice
            have HBf := Lib.hid (HW1.out.trans (HB.out.mono HW1.out.size))
            clear hX HF HD HB HC
            go_wp2_with fail
            refine (HTt.out wr (Below.refl _ _)).mono ?_
            rintro e wx ⟨rfl, hbx⟩
            have HBx := Lib.hid hbx
            clear hbx HTt
            go_wp2_with fail
            refine (HFf.out wx HBx.out).mono ?_
            rintro e wy ⟨vy, rfl, hOy, hby⟩
            obtain ⟨p6, c6, rfl⟩ := hOy.is.slice
            have HBy := Lib.hid (HBf.out.trans ((HBx.out.trans (hby.mono HBx.out.size)).mono HBf.out.size))
            clear hOy hby HFf HBx HBf
            go_wp2
            go_returns
            exact ⟨rfl, HBy.out⟩
end Go.Proofs.Ytboefmmpclmngaa
