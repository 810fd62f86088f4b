import Derived.Test.YtmmojohjipmoaaaBp
import Derived.Test.YtmmojohjipmoaaaBm
import Derived.Test.YtmmojohjipmoaaaBk
import Derived.Test.YtmmojohjipmoaaaBu
namespace Go.Proofs.Ytmmojohjipmoaaa
open Go.RowKit
set_option linter.unusedVariables false
set_option linter.unusedSimpArgs false

theorem AnsI.mono {xs : List IV} {w W : World} {e : Ending} {w' : World} (h : AnsI xs W e w') (hb : Below w.heap.size w W) : AnsI xs w e w' := by
  obtain ⟨v, h1, h2, h3, h4⟩ := h
  exact ⟨v, h1, h2, h3, hb.trans (h4.mono hb.size)⟩
theorem inN_of {xs : List IV} (h : rightI xs = true) : inN xs := fun c hc => by
  have := (IV.ok_iff c).1 (((rightI_iff xs).1 h).1 c hc)
  exact this.2
set_option maxRecDepth 100000 in
set_option maxHeartbeats 4000000 in
theorem bplus_any (xs ys : List IV) (va vb : Value) (w : World) (hl : xs.length ≤ 400000) (hm : ys.length ≤ 400000) (ca : capOk va) (cb : capOk vb) (ha : RI.Is w va xs) (hb : RI.Is w vb ys) :
    Calls Try.prog 15 #[va, vb] w (AnsI (plusI xs ys) w) := by
  have HA := Lib.hid ha; have HB := Lib.hid hb
  have HRA := Lib.hid (bright_any xs va w (by omega) ha)
  have HRB := Lib.hid (fun W (hW : Below w.heap.size w W) => bright_any ys vb W (by omega) (hb.below hW))
  have HC := Lib.hid (fun W (hW : Below w.heap.size w W) => bclone_any xs va W (by omega) (ha.below hW))
  have HM : Hid (rightI xs = true → rightI ys = true → ∀ W (hW : Below w.heap.size w W), Calls Try.prog 29 #[va, vb] W (RI.Made (mergedI xs ys) W)) := fun h1 h2 W hW => bmerged_any xs ys va vb W hl hm (inN_of h1) (inN_of h2) ca cb (ha.below hW) (hb.below hW)
  have h1 : rightI xs = false → plusI xs ys = xs := fun h => by unfold plusI; rw [if_neg (by rw [h]; simp)]
  have h2 : rightI ys = false → plusI xs ys = xs := fun h => by unfold plusI; rw [if_neg (by rw [h]; simp)]
  have h3 : rightI xs = true → rightI ys = true → plusI xs ys = mergedI xs ys := fun h k => by unfold plusI; rw [if_pos ⟨h, k⟩]
  obtain ⟨p, c, rfl⟩ := ha.slice
  obtain ⟨q, d, rfl⟩ := hb.slice
  clear ha hb ca cb HA HB
  generalize plusI xs ys = res at h1 h2 h3 ⊢
  generalize rightI xs = b1 at *
  generalize rightI ys = b2 at *
  generalize mergedI xs ys = mm at *
  generalize xs.length = n1 at *
  generalize ys.length = n2 at *
  have H1 := Lib.hid h1; have H2 := Lib.hid h2; have H3 := Lib.hid h3
  clear h1 h2 h3
  go_enter Try.func15, Try.ntmps15
  go_wp2_with fail
  refine (HRA.out).mono ?_
  rintro e w1 ⟨rfl, hb1⟩
  have HB1 := Lib.hid hb1
  clear hb1 HRA
  cases b1
  · go_wp2_with fail
    refine (HC.out _ HB1.out).mono ?_
    rintro e w2 ⟨v, rfl, hI, hC, hb2⟩
    have HX : Hid (AnsI res w (.returned v) w2) := ⟨v, rfl, by rw [H1.out (by trivial)]; exact hI, hC, HB1.out.trans (hb2.mono HB1.out.size)⟩
    clear hI hC hb2
    go_wp2
    go_returns
    exact HX.out
  · go_wp2_with fail
    refine (HRB.out _ HB1.out).mono ?_
    rintro e w2 ⟨rfl, hb2⟩
    have HB2 := Lib.hid (HB1.out.trans (hb2.mono HB1.out.size))
    clear hb2 HRB
    cases b2
    · go_wp2_with fail
      refine (HC.out _ HB2.out).mono ?_
      rintro e w3 ⟨v, rfl, hI, hC, hb3⟩
      have HX : Hid (AnsI res w (.returned v) w3) := ⟨v, rfl, by rw [H2.out (by trivial)]; exact hI, hC, HB2.out.trans (hb3.mono HB2.out.size)⟩
      clear hI hC hb3
      go_wp2
      go_returns
      exact HX.out
    · have HM2 := Lib.hid (HM.out (by trivial) (by trivial))
      clear HM
      go_wp2_with fail
      refine (HM2.out _ HB2.out).mono ?_
      rintro e w3 ⟨v, rfl, hO, hb3⟩
      have HX : Hid (AnsI res w (.returned v) w3) := ⟨v, rfl, by rw [H3.out (by trivial) (by trivial)]; exact hO.is, ownCapI hO, HB2.out.trans (hb3.mono HB2.out.size)⟩
      clear hO hb3
      go_wp2
      go_returns
      exact HX.out
set_option maxRecDepth 100000 in
set_option maxHeartbeats 4000000 in
theorem badd_any (xs : List IV) (t : RV) (n : Int) (va : Value) (w : World) (hl : xs.length ≤ 400000) (ca : capOk va) (ha : RI.Is w va xs) :
    Calls Try.prog 13 #[va, t.val, .int .i64 n] w (AnsI (addI xs t n) w) := by
  have hall := fun (W : World) (vb : Value) (hW : Below w.heap.size w W) (cb : capOk vb) (hb : RI.Is W vb [⟨t, n⟩]) => bplus_any xs [⟨t, n⟩] va vb W hl (by simp) ca cb (ha.below hW) hb
  have HA := Lib.hid hall
  obtain ⟨p, c, rfl⟩ := ha.slice
  clear ha ca hall
  have hres : plusI xs [⟨t, n⟩] = addI xs t n := rfl
  rw [hres] at HA
  clear hres
  generalize addI xs t n = res at *
  generalize xs.length = n1 at *
  go_enter Try.func13, Try.ntmps13
  have hrow := RowKind.Row.new (R := RI) (w.alloc (.cells #[.int .i64 t.k, .int .i64 t.v] 24)) ⟨t, n⟩ 43
  rw [World.size_alloc] at hrow
  have hB := ((Below.refl w.heap.size w).alloc (Nat.le_refl _) (.cells #[.int .i64 t.k, .int .i64 t.v] 24)).alloc (by simp) (.cells #[.int .i64 t.k, .int .i64 t.v, .int .i64 n] 43)
  have hcall := HA.out _ (.slice (some ⟨w.heap.size + 1, 0, none⟩) 1 1) hB (fun p n c e => by cases e; exact Nat.le_refl _) (.inr ⟨by simp, w.heap.size + 1, 0, 1, rfl, by simp, hrow⟩)
  have HC := Lib.hid hcall; have HB := Lib.hid hB
  clear hrow hB hcall HA
  go_wp2_with fail
  refine (HC.out).mono ?_
  rintro e w1 ⟨v, rfl, hI, hcap, hb1⟩
  have HX : Hid (AnsI res w (.returned v) w1) := ⟨v, rfl, hI, hcap, HB.out.trans (hb1.mono HB.out.size)⟩
  clear hI hcap hb1 HC HB
  go_wp2
  go_returns
  exact HX.out
set_option maxHeartbeats 2000000 in
theorem turned_nil (p : Option Addr) (cap : Nat) (w : World) : Calls Try.prog 30 #[.slice p 0 cap] w (RI.Made [] w) := by
  have hmk := fun W => run_make_rows (P := Try.prog) (t := RI.tS) RI.under RI.info RI.byt 0 (by omega) W
  have hmk : ∀ W : World, (Instr.makeSlice 22 (.int .i64 0) (.int .i64 0)).run Try.prog W = .ok (.slice (some ⟨W.heap.size, 0, none⟩) 0 0) (W.alloc (.cells (madeCells #[.int .i64 0, .int .i64 0, .int .i64 0] (0 * 3)) 43)) := hmk
  have HO : Hid (RI.Own w.heap.size (w.alloc (.cells (madeCells #[.int .i64 0, .int .i64 0, .int .i64 0] (0 * 3)) 43)) (.slice (some ⟨w.heap.size, 0, none⟩) 0 0) []) := World.ownsRow_made w _ 0 (Nat.le_refl _) (Nat.zero_le _) (size_madeCells _ _)
  have HB := Lib.hid ((Below.refl w.heap.size w).alloc (Nat.le_refl _) (.cells (madeCells #[.int .i64 0, .int .i64 0, .int .i64 0] (0 * 3)) 43))
  go_enter Try.func30, Try.ntmps30
  go_wp2
  refine wp_loop_rounds 1 ?_
  rw [rounds_succ]
  go_wp2
  go_returns
  exact ⟨_, rfl, HO.out, HB.out⟩
theorem turned_any (xs : List IV) (v : Value) (w : World) (hl : xs.length ≤ 900000) (h64 : in64 xs) (h : RI.Is w v xs) : Calls Try.prog 30 #[v] w (RI.Made (xs.map negI) w) := by
  rcases h with ⟨rfl, p, cap, rfl, _⟩ | ⟨h0, b, off, cap, rfl, hb, hr⟩
  · exact turned_nil p cap w
  · exact turned_row xs b off cap w hl h64 hb hr
def minusI (a b : List IV) : List IV := plusI a (b.map negI)
set_option maxRecDepth 100000 in
set_option maxHeartbeats 4000000 in
theorem bminus_any (xs ys : List IV) (va vb : Value) (w : World) (hl : xs.length ≤ 400000) (hm : ys.length ≤ 400000) (h64 : in64 ys) (ca : capOk va) (ha : RI.Is w va xs) (hb : RI.Is w vb ys) :
    Calls Try.prog 17 #[va, vb] w (AnsI (minusI xs ys) w) := by
  have HT := Lib.hid (turned_any ys vb w (by omega) h64 hb)
  have HP := Lib.hid (fun (W : World) (hW : Below w.heap.size w W) (v : Value) (cv : capOk v) (hv : RI.Is W v (ys.map negI)) => bplus_any xs (ys.map negI) va v W hl (by rw [List.length_map]; exact hm) ca cv (ha.below hW) hv)
  have hres : plusI xs (ys.map negI) = minusI xs ys := rfl
  rw [hres] at HP
  obtain ⟨p, c, rfl⟩ := ha.slice
  obtain ⟨q, d, rfl⟩ := hb.slice
  clear ha hb ca h64 hres
  generalize minusI xs ys = res at *
  generalize ys.map negI = zs at *
  generalize xs.length = n1 at *
  generalize ys.length = n2 at *
  go_enter Try.func17, Try.ntmps17
  go_wp2_with fail
  refine (HT.out).mono ?_
  rintro e w1 ⟨u, rfl, hO, hB1⟩
  have HC := Lib.hid (HP.out w1 hB1 u (ownCapI hO) hO.is)
  have HB1 := Lib.hid hB1
  clear hO hB1 HP HT
  go_wp2_with fail
  refine (HC.out).mono ?_
  rintro e w2 ⟨v, rfl, hI, hcap, hb2⟩
  have HX : Hid (AnsI res w (.returned v) w2) := ⟨v, rfl, hI, hcap, HB1.out.trans (hb2.mono HB1.out.size)⟩
  clear hI hcap hb2
  go_wp2
  go_returns
  exact HX.out
end Go.Proofs.Ytmmojohjipmoaaa
