/- PathsRight: the law's walk; written by gen/mk.py -/
import Derived.Test.YtacmdkbmakfdkaaG39
import Derived.Test.YtacmdkbmakfdkaaG41
import Derived.Test.YtacmdkbmakfdkaaYw
namespace Go.Proofs.Ytacmdkbmakfdkaa
open Go.RowKit
set_option linter.unusedVariables false
set_option linter.unusedSimpArgs false

set_option maxRecDepth 100000 in
set_option maxHeartbeats 32000000 in
theorem pathsRight_walk (g : GV) (v : Value) (w : World) (h : IsG w v g) (hcap : capsG v) :
    Calls Try.prog 3 #[v] w (Ret (.bool true) w) := by
  have HA := Lib.hid (fun W => pawake W)
  obtain ⟨rb, hrb, hR⟩ := runs_any g
  have HRu : Hid (∀ W, Below w.heap.size w W → Calls Try.prog 8 #[v] W (Ret (.bool rb) W)) := fun W hW => hR v W (h.below hW)
  have HShC : Hid (∀ W, Below w.heap.size w W → Calls Try.prog 6 #[v] W (Ret (.bool (shortG g)) W)) := fun W hW => rshort_any g v W (h.below hW)
  have HI : Hid (IsG w v g) := h
  have HCap : Hid (capsG v) := hcap
  obtain ⟨p1, c1, p2, c2, p3, c3, p4, c4, hv, G⟩ := h.go
  clear h hcap G hR
  subst hv
  generalize hn1 : g.parent.length = n1 at *
  generalize hn2 : g.bound.length = n2 at *
  generalize hn3 : g.nodes.length = n3 at *
  generalize hn4 : g.edges.length = n4 at *
  have HN3 := Lib.hid hn3
  clear hn1 hn2 hn3 hn4
  generalize hsh : shortG g = sh at *
  have HSh := Lib.hid hsh
  have HRB := Lib.hid hrb
  clear hsh hrb
  go_enter Try.func3, Try.ntmps3
  go_wp2_with fail
  refine gen_c (fun W2 => Hid (Below w.heap.size w W2) ∧ Hid (rowOf W2 w.heap.size = some #[.slice p1 n1 c1, .slice p2 n2 c2, .slice p3 n3 c3, .slice p4 n4 c4])) ⟨by rw [Hid]; go_grown, Lib.hid (row_new rfl)⟩ ?_
  rintro w2 ⟨HB2, HX2⟩
  refine (HA.out _).mono ?_
  rintro e w3 ⟨rfl, hb⟩
  have HX3 := Lib.hid (rowOf_below HX2.out hb (rowOf_lt HX2.out))
  have HB3 := Lib.hid (bstep HB2.out hb HB2.out.size)
  clear hb HX2 HB2
  clear HA
  have g_0 := (rowOf_cell HX3.out 0 : _ = some (Value.slice p1 n1 c1))
  have g_1 := (rowOf_cell HX3.out 1 : _ = some (Value.slice p2 n2 c2))
  have g_2 := (rowOf_cell HX3.out 2 : _ = some (Value.slice p3 n3 c3))
  have g_3 := (rowOf_cell HX3.out 3 : _ = some (Value.slice p4 n4 c4))
  go_wp2_with fail
  refine (HShC.out _ HB3.out).mono ?_
  rintro e w4 ⟨rfl, hb⟩
  clear g_0 g_1 g_2 g_3
  have HX4 := Lib.hid (rowOf_below HX3.out hb (rowOf_lt HX3.out))
  have HB4 := Lib.hid (bstep HB3.out hb HB3.out.size)
  clear hb HX3 HB3
  clear HShC
  have g_0 := (rowOf_cell HX4.out 0 : _ = some (Value.slice p1 n1 c1))
  have g_1 := (rowOf_cell HX4.out 1 : _ = some (Value.slice p2 n2 c2))
  have g_2 := (rowOf_cell HX4.out 2 : _ = some (Value.slice p3 n3 c3))
  have g_3 := (rowOf_cell HX4.out 3 : _ = some (Value.slice p4 n4 c4))
  cases sh
  · clear HRB HSh HRu
    go_wp2
    go_returns
    exact ⟨by first | rfl | simp, HB4.out⟩
  have S := short_small HSh.out
  by_cases hr : runG g
  · obtain rfl : rb = true := HRB.out.2 ⟨rfl, hr⟩
    obtain ⟨low, L, hrow⟩ := low_run hr
    have Rn := (runG_may hr).runs
    have HTa : Hid (∀ W, Below w.heap.size w W → Calls Try.prog 7 #[.agg #[.slice p1 n1 c1, .slice p2 n2 c2, .slice p3 n3 c3, .slice p4 n4 c4]] W (PTabR low n3 W)) := fun W hW => by
      have q := ptable_run hr L hrow _ W (HI.out.below hW) HCap.out S
      rw [HN3.out] at q
      exact q
    have HRw : Hid (∀ k : Nat, k < n3 → ∀ W, Below w.heap.size w W → Calls Try.prog 9 #[.agg #[.slice p1 n1 c1, .slice p2 n2 c2, .slice p3 n3 c3, .slice p4 n4 c4], .int .i64 (k : Int)] W (RowR g k W)) := fun k hk W hW => rrow_any g _ k W (HI.out.below hW) Rn (by rw [HN3.out]; exact hk)
    have HLow := Lib.hid L
    have hn9 : n3 ≤ 900000 := by have := S.n; rw [HN3.out] at this; exact this
    clear S L hrow Rn HI HCap HRB hr HSh
    go_wp2_with fail
    refine (HTa.out _ HB4.out).mono ?_
    rintro e w5 ⟨bt, tl, rfl, hS, hbt, hb⟩
    have HS5 := Lib.hid hS
    clear hS hbt HTa
    clear g_0 g_1 g_2 g_3
    have HX5 := Lib.hid (rowOf_below HX4.out hb (rowOf_lt HX4.out))
    have HB5 := Lib.hid (bstep HB4.out hb HB4.out.size)
    clear hb HX4 HB4
    have g_0 := (rowOf_cell HX5.out 0 : _ = some (Value.slice p1 n1 c1))
    have g_1 := (rowOf_cell HX5.out 1 : _ = some (Value.slice p2 n2 c2))
    have g_2 := (rowOf_cell HX5.out 2 : _ = some (Value.slice p3 n3 c3))
    have g_3 := (rowOf_cell HX5.out 3 : _ = some (Value.slice p4 n4 c4))
    go_wp2_with fail
    refine (HRu.out _ HB5.out).mono ?_
    rintro e w6 ⟨rfl, hb⟩
    clear g_0 g_1 g_2 g_3
    clear HRu
    have HX6 := Lib.hid (rowOf_below HX5.out hb (rowOf_lt HX5.out))
    have HB6 := Lib.hid (bstep HB5.out hb HB5.out.size)
    have HS6 := Lib.hid (HS5.out.below hb)
    clear hb HX5 HB5 HS5
    have g_0 := (rowOf_cell HX6.out 0 : _ = some (Value.slice p1 n1 c1))
    have g_1 := (rowOf_cell HX6.out 1 : _ = some (Value.slice p2 n2 c2))
    have g_2 := (rowOf_cell HX6.out 2 : _ = some (Value.slice p3 n3 c3))
    have g_3 := (rowOf_cell HX6.out 3 : _ = some (Value.slice p4 n4 c4))
    go_wp2_with fail
    clear g_0 g_1 g_2 g_3
    go_loopg [4] n3 (fun gg iv wr => ∃ k : Nat, k ≤ n3 ∧ n3 - k ≤ gg ∧ iv = .int .i64 (k : Int) ∧ Hid (Below w.heap.size w wr) ∧ Hid (rowOf wr w.heap.size = some #[.slice p1 n1 c1, .slice p2 n2 c2, .slice p3 n3 c3, .slice p4 n4 c4]) ∧ Hid (TabS low n3 wr bt tl n3))
    case atStart => exact ⟨0, Nat.zero_le _, by omega, rfl, HB6.out, HX6.out, HS6.out⟩
    case round =>
      clear HB6 HX6 HS6
      obtain ⟨k, hk, hg, rfl, HB7, HX7, HS7⟩ := hrel
      by_cases hlt : k < n3
      · have hlz : (k : Int) < (n3 : Int) := by omega
        have HRk := Lib.hid (HRw.out k hlt)
        obtain ⟨blk, svs, rowsT, e, o, hrl, hp⟩ := HS7.out.row k hlt
        have HE := Lib.hid e
        have HO7 := Lib.hid o
        have HRl := Lib.hid hrl
        have HP := Lib.hid hp
        clear e o hrl hp
        have g_0 := (rowOf_cell HX7.out 0 : _ = some (Value.slice p1 n1 c1))
        have g_1 := (rowOf_cell HX7.out 1 : _ = some (Value.slice p2 n2 c2))
        have g_2 := (rowOf_cell HX7.out 2 : _ = some (Value.slice p3 n3 c3))
        have g_3 := (rowOf_cell HX7.out 3 : _ = some (Value.slice p4 n4 c4))
        go_wp2_with fail
        refine (HRk.out _ HB7.out).mono ?_
        rintro e w8 ⟨v8, rows, rfl, hI8, hb, hlr, hle, hfew⟩
        rw [HN3.out] at hlr hle
        have HO8 := Lib.hid (HO7.out.below hb)
        clear g_0 g_1 g_2 g_3
        clear HRk HO7
        have HX8 := Lib.hid (rowOf_below HX7.out hb (rowOf_lt HX7.out))
        have HB8 := Lib.hid (bstep HB7.out hb HB7.out.size)
        have HS8 := Lib.hid (HS7.out.below hb)
        clear hb HX7 HB7 HS7
        obtain ⟨p5, c5, rfl, hop⟩ := hI8.opened
        rw [hlr] at hop
        have HRo := Lib.hid hop
        have HLe := Lib.hid hle
        have HFw := Lib.hid hfew
        have hcell : w8.cell? ⟨bt, k, none⟩ = some (.slice (some ⟨blk, 0, none⟩) n3 n3) := by
          have q := HS8.out.cell k hlt
          rw [HE.out] at q
          exact q
        rw [hlr]
        clear hop hle hfew hI8 HE hlr
        go_wp2_with fail
        clear hcell
        obtain ⟨wo, rfl⟩ : ∃ wo : World, wo = w8 := ⟨_, rfl⟩
        go_loopg [6] n3 (fun gg iv wr => ∃ m : Nat, m ≤ n3 ∧ n3 - m ≤ gg ∧ iv = .int .i64 (m : Int) ∧ Hid (Below wo.heap.size wo wr))
        case atStart => exact ⟨0, Nat.zero_le _, by omega, rfl, Below.refl _ _⟩
        case round =>
          obtain ⟨m, hm, hg2, rfl, HBi⟩ := hrel
          have HBr := Lib.hid (bstep HB8.out HBi.out HB8.out.size)
          have HXr := Lib.hid (rowOf_below HX8.out HBi.out (rowOf_lt HX8.out))
          have HSr := Lib.hid (HS8.out.below HBi.out)
          have HOr := Lib.hid (HO8.out.below HBi.out)
          by_cases hml : m < n3
          · have hmz : (m : Int) < (n3 : Int) := by omega
            obtain ⟨b, off, q, d, rfl, his, hcl⟩ := HRo.out m hml
            obtain ⟨blk', svs', rows', e', o', hrl', hp'⟩ := HSr.out.row k hlt
            have c1' : wr.cell? ⟨bt, k, none⟩ = some (.slice (some ⟨blk', 0, none⟩) n3 n3) := by
              have q := HSr.out.cell k hlt
              rw [e'] at q
              exact q
            have hms : m < svs'.length := by rw [o'.len, hrl']; exact hml
            have c2' := o'.cell m hms
            have hi2 := (o'.own m hms).is
            have hpm := hp' m hml
            have hL := (HLow.out k (by rw [HN3.out]; exact hlt)).2 m (by rw [HN3.out]; exact hml)
            have hlike : likeH rows'[m]! rows[m]! = true := (hL.1.perm hpm).like (HLe.out m hml)
            have hl1 : rows'[m]!.length ≤ 1000000000000 := by rw [hpm.length_eq]; have := hL.2; omega
            have hl2 : List.length rows[m]! ≤ 1000000000000 := by have := HFw.out m; omega
            have c3' := hcl wr HBi.out
            have K0 : Hid (∀ W, Below wr.heap.size wr W → Calls Try.prog 10 #[svs'[m]!.val, .slice q (List.length rows[m]!) d] W (Ret (.bool true) W)) := fun W hW => by
              rw [← hlike]
              exact rlike_any _ _ _ _ W hl1 hl2 (hi2.below hW) ((his.below HBi.out).below hW)
            clear e' o' hrl' hp' hms hi2 hpm hL hlike hl1 hl2 his hcl
            generalize svs'[m]! = sk at *
            obtain ⟨pk, nk, ck⟩ := sk
            generalize List.length rows[m]! = ln at *
            have x1 := bx_cell c1'
            have x2 := bx_cell (show wr.cell? ⟨blk', m, none⟩ = some (.slice pk nk ck) from c2')
            have x3 := bx_cell c3'
            have K1 : Hid (∀ p : Bx wr, Calls Try.prog 10 #[.slice pk nk ck, .slice q ln d] p.w (Ret (.bool true) p.w)) := fun p => K0.out p.w p.h
            clear c1' c2' c3' K0
            go_wp2_with fail
            refine wp_region_bx (by kernel_rfl) (by kernel_rfl) ?_
            repeat (first | go_big_quiet_step (first | (with_reducible exact Calls.bx (K1.out _))) | quiet_step (first | (with_reducible exact Calls.bx (K1.out _))))
            refine wpQuiet_nil ?_
            intro _ hw'
            obtain ⟨g9, hw''⟩ := hw'
            subst hw''
            have hb9 := g9.h
            generalize g9.w = w9 at hb9 ⊢
            clear g9
            have HB9 := Lib.hid (bstep HBi.out hb9 HBi.out.size)
            clear hb9 x1 x2 x3 K1
            go_wp2_with fail
            go_roundg (n3 - (m + 1))
            case measure => omega
            case rel => exact ⟨m + 1, by omega, by omega, by go_num, HB9.out⟩
          · have hmz : ¬ (m : Int) < (n3 : Int) := by omega
            go_wp2_with fail
            go_roundg (n3 - (k + 1))
            case measure => omega
            case rel => exact ⟨k + 1, by omega, by omega, by go_num, HBr.out, HXr.out, HSr.out⟩
      · have hlz : ¬ (k : Int) < (n3 : Int) := by omega
        go_wp2
        go_returns
        exact ⟨rfl, HB7.out⟩
  · obtain rfl : rb = false := Bool.eq_false_iff.2 fun e => hr (HRB.out.1 e).2
    have HTa : Hid (∀ W, Below w.heap.size w W → Calls Try.prog 7 #[.agg #[.slice p1 n1 c1, .slice p2 n2 c2, .slice p3 n3 c3, .slice p4 n4 c4]] W (Ret (.slice none 0 0) W)) := fun W hW => ptable_no hr _ W (HI.out.below hW) HCap.out S
    clear S HI HCap HRB hr HSh
    go_wp2_with fail
    refine (HTa.out _ HB4.out).mono ?_
    rintro e w5 ⟨rfl, hb⟩
    clear g_0 g_1 g_2 g_3
    clear HTa
    have HX5 := Lib.hid (rowOf_below HX4.out hb (rowOf_lt HX4.out))
    have HB5 := Lib.hid (bstep HB4.out hb HB4.out.size)
    clear hb HX4 HB4
    have g_0 := (rowOf_cell HX5.out 0 : _ = some (Value.slice p1 n1 c1))
    have g_1 := (rowOf_cell HX5.out 1 : _ = some (Value.slice p2 n2 c2))
    have g_2 := (rowOf_cell HX5.out 2 : _ = some (Value.slice p3 n3 c3))
    have g_3 := (rowOf_cell HX5.out 3 : _ = some (Value.slice p4 n4 c4))
    go_wp2_with fail
    refine (HRu.out _ HB5.out).mono ?_
    rintro e w6 ⟨rfl, hb⟩
    clear g_0 g_1 g_2 g_3
    clear HRu
    have HX6 := Lib.hid (rowOf_below HX5.out hb (rowOf_lt HX5.out))
    have HB6 := Lib.hid (bstep HB5.out hb HB5.out.size)
    clear hb HX5 HB5
    go_wp2
    go_returns
    exact ⟨by first | rfl | simp, HB6.out⟩
end Go.Proofs.Ytacmdkbmakfdkaa
