/- the document's Put -/
import Derived.Test.YtdgnblkoohakeaaUm
import Derived.Test.YtdgnblkoohakeaaUe
import Derived.Test.YtdgnblkoohakeaaUg
import Derived.Test.YtdgnblkoohakeaaRowBig
import Derived.Test.YtdgnblkoohakeaaBoxG
import Derived.Deep.RegionHeldLaw
import Derived.Deep.CutRange
import Derived.Deep.RegionLaw
namespace Go.Proofs.Ytdgnblkoohakeaa
open Go.RowKit
set_option linter.unusedVariables false
set_option linter.unusedSimpArgs false

theorem boxed_rowU {w : World} {b : Nat} {c : Array Value} {t : TypeId} (h : Boxed w b c t) : rowOf w b = some c := by
  unfold rowOf
  rw [h]
  simp
theorem free_ownM {B : Nat} {w : World} {v : Value} {xs : List MV} (h : RM.Free B w v xs) (hn : xs ≠ []) : RM.Own B w v xs := by
  rcases h with h | ⟨h, _⟩
  · exact h
  · exact absurd h hn
theorem capB_free {B : Nat} {w : World} {v : Value} {xs : List BW} (h : RB4.Free B w v xs) : capOk v := by
  rcases h with h | ⟨_, ad, rfl⟩
  · intro p n c e
    obtain ⟨h1, ⟨rfl, h0⟩ | ⟨g, cap, cur, rfl, hB, hg, h2, h3, _⟩⟩ := h
    · cases e; exact Nat.le_refl _
    · cases e; exact h2
  · intro p n c e; cases e; exact Nat.le_refl _
theorem areBx.take {w : World} {xs : List BW} {n : List BV} (h : areBx w xs n) (k : Nat) : areBx w (xs.take k) (n.take k) := by
  refine ⟨by rw [List.length_take, List.length_take, h.1], fun i hi => ?_⟩
  have hl := hi
  rw [List.length_take] at hl
  have e1 : (xs.take k)[i]! = xs[i]! := by rw [getElem!_pos _ i (by rw [List.length_take, h.1]; exact hl), getElem!_pos xs i (by rw [h.1]; omega), List.getElem_take]
  have e2 : (n.take k)[i]! = n[i]! := by rw [getElem!_pos _ i hi, getElem!_pos n i (by omega), List.getElem_take]
  rw [e1, e2]
  exact h.2 i (by omega)
theorem one_msg {w : World} {bl : Nat} {m : MV} (h : Boxed w bl (mvRow m) 29) : RM.Is w (.slice (some ⟨bl, 0, none⟩) 1 1) [m] := by
  refine .inr ⟨by simp, bl, 0, 1, rfl, h.lt, fun j hj i u hu => ?_⟩
  have hj0 : j = 0 := by simpa using hj
  subst hj0
  have e : (⟨bl, 0 + 0 * RM.k + i, none⟩ : Addr) = ⟨bl, i, none⟩ := by simp
  rw [e, h.cell i]
  rw [← hu]
  show (mvRow m)[i]? = (MV.enc m)[i]?
  simp [mvRow, MV.enc]
/-- the state of the loop -/
structure PS (w W4 : World) (bm bf : Nat) (xs0 : List BW) (n : List BV) (f t : Int) (m : MV) (v14 : Value) (dn : Bool) (k : Nat) (wr : World) : Prop where
  ex : (dn = false ∧ RB4.Own W4.heap.size wr v14 (xs0.take k) ∧ Below W4.heap.size W4 wr ∧ ∀ j, j < k → isB n[j]! m.e f t = false ∧ aheadB ⟨m.e, f, t, [m]⟩ n[j]! = false) ∨
    (dn = true ∧ ∃ outN, OutB W4.heap.size wr v14 outN ∧ outN.length ≤ k + 1 ∧ outN ++ n.drop k = putL n f t m ∧ ∀ j, k ≤ j → j < n.length → isB n[j]! m.e f t = false)
  below : Below w.heap.size w wr
  big : W4.heap.size ≤ wr.heap.size
  box : Boxed wr bm (mvRow m) 29
set_option maxRecDepth 100000 in
set_option maxHeartbeats 16000000 in
theorem uput_any (n : List BV) (v : Value) (f t room : Int) (m : MV) (w : World) (hl : SmallN n) (h : IsBs w v n) : Calls Try.prog 9 #[v, .int .i64 f, .int .i64 t, .int .i64 room, MV.val m] w (fun e W' => ∃ u, e = .returned (.tuple #[u, .bool (putOk n f t room m)]) ∧ IsBs W' u (putN n f t room m) ∧ capOk u ∧ Below w.heap.size w W') := by
  have HLen := Lib.hid (fun W hW => ulen_any n v m.e f t W (by have := hl.1; omega) (h.below hW))
  have HRt := Lib.hid (fun W hW => uright_any n v W (by have := hl.1; omega) (h.below hW))
  have HIs := Lib.hid (fun a1 a2 a3 a4 b1 b2 b3 W => uis_any a1 a2 a3 a4 b1 b2 b3 W)
  have HAh := Lib.hid (fun a1 a2 a3 a4 b1 b2 b3 b4 W => uahead_any a1 a2 a3 a4 b1 b2 b3 b4 W)
  have HI := Lib.hid h
  obtain ⟨xs0, hx0, hx1⟩ := h
  have HIs0 := Lib.hid hx0
  have HAr := Lib.hid hx1
  obtain ⟨p, c, rfl, ho⟩ := isOpenedU hx0
  have HO := Lib.hid ho
  have HXn : Hid (xs0.length = n.length) := hx1.1
  have HN1 : Hid (n.length ≤ 1000) := hl.1
  have HL5n : Hid (∀ b ∈ n, b.l.length ≤ 5000) := hl.2
  clear hx0 hx1 ho hl
  go_enter Try.func9, Try.ntmps9
  go_upto_region 1 with (fail)
  refine gen_world (fun W3 => Below w.heap.size w W3 ∧ Boxed W3 w.heap.size (mvRow m) 29) ⟨by first | exact (Below.refl _ _).alloc (Nat.le_refl _) _ | go_grown, by first | exact heap_alloc_new _ _ | skip⟩ ?_
  rintro w1 ⟨hb1, hx1⟩
  have HB1 := Lib.hid hb1
  have HX1 := Lib.hid hx1
  have hbm : w.heap.size < w1.heap.size := hx1.lt
  have c0 : w1.cell? ⟨w.heap.size, 0, none⟩ = some (.int .i64 m.e) := HX1.out.cell 0
  clear hb1 hx1
  go_wp2_with fail
  refine (HLen.out _ HB1.out).mono ?_
  rintro e w2 ⟨rfl, hb2⟩
  have HB2 := Lib.hid (bcall HB1.out hb2 HB1.out.size)
  have HX2 := Lib.hid (HX1.out.below hb2 HX1.out.lt)
  have hbm2 : w.heap.size < w2.heap.size := HX2.out.lt
  clear hb2 HLen HB1 HX1 c0 hbm
  have HNe : Hid (putOk n f t room m = true → rightN n = true) := fun q => (of_decide_eq_true q).1
  have HLl : Hid (lenN n m.e f t = lenL n m.e f t ∨ rightN n = false) := by
    cases q : rightN n
    · exact .inr rfl
    · exact .inl (by unfold lenN; rw [if_pos q])
  go_upto_region 2 with (fail)
  go_cut [47] from 23 to 46 (fun x wx => x = .bool (!putOk n f t room m) ∧ Hid (Below w2.heap.size w2 wx))
  case first =>
    go_wp2_with fail
    refine (HRt.out _ HB2.out).mono ?_
    rintro e w3 ⟨rfl, hb3⟩
    have HB3 := Lib.hid hb3
    have d0 : w3.cell? ⟨w.heap.size, 0, none⟩ = some (.int .i64 m.e) := (HX2.out.below hb3 HX2.out.lt).cell 0
    clear hb3
    cases hR : rightN n
    · have HRR : Hid (putOk n f t room m = false) := decide_eq_false fun q => by rw [hR] at q; cases q.1
      go_wp2_with fail
      go_meet
      case rel => exact ⟨by rw [HRR.out]; rfl, HB3.out⟩
    · by_cases h1 : f < 0
      · have b1 : decide (f < 0) = true := decide_eq_true h1
        have HRR : Hid (putOk n f t room m = false) := decide_eq_false fun q => by have := q.2.1.1; omega
        clear h1
        go_wp2_with fail
        go_meet
        case rel => exact ⟨by rw [HRR.out]; rfl, HB3.out⟩
      · have b1 : decide (f < 0) = false := decide_eq_false h1
        by_cases h2 : t < 0
        · have b2 : decide (t < 0) = true := decide_eq_true h2
          have HRR : Hid (putOk n f t room m = false) := decide_eq_false fun q => by have := q.2.1.2.1; omega
          clear h2
          go_wp2_with fail
          go_meet
          case rel => exact ⟨by rw [HRR.out]; rfl, HB3.out⟩
        · have b2 : decide (t < 0) = false := decide_eq_false h2
          by_cases h3 : m.e < 0
          · have b3 : decide (m.e < 0) = true := decide_eq_true h3
            have HRR : Hid (putOk n f t room m = false) := decide_eq_false fun q => by have := q.2.1.2.2; omega
            clear h3
            go_wp2_with fail
            go_meet
            case rel => exact ⟨by rw [HRR.out]; rfl, HB3.out⟩
          · have b3 : decide (m.e < 0) = false := decide_eq_false h3
            by_cases h4 : room ≤ (lenN n m.e f t : Int)
            · have b4 : decide (room ≤ (lenN n m.e f t : Int)) = true := decide_eq_true h4
              have HRR : Hid (putOk n f t room m = false) := decide_eq_false fun q => by have := q.2.2.1; omega
              clear h4
              go_wp2_with fail
              go_meet
              case rel => exact ⟨by rw [HRR.out]; rfl, HB3.out⟩
            · have b4 : decide (room ≤ (lenN n m.e f t : Int)) = false := decide_eq_false h4
              have HRR : Hid (putOk n f t room m = !decide ((4096 : Int) ≤ (lenN n m.e f t : Int))) := by
                rw [Hid, Bool.eq_iff_iff]
                unfold putOk
                simp only [decide_eq_true_eq, Bool.not_eq_true', decide_eq_false_iff_not]
                constructor
                · intro q; have := q.2.2.2; omega
                · intro q; exact ⟨hR, ⟨by omega, by omega, by omega⟩, by omega, by omega⟩
              clear h4
              go_wp2_with fail
              go_meet
              case rel => exact ⟨by rw [HRR.out]; simp, HB3.out⟩
  case rest =>
    obtain ⟨rfl, HB3⟩ := hcut
    rename World => w3
    have HB3w : Hid (Below w.heap.size w w3) := bcall HB2.out HB3.out HB2.out.size
    have HX3 := Lib.hid (HX2.out.below HB3.out HX2.out.lt)
    clear HB2 HX2 HB3 hbm2 HRt
    cases hP : putOk n f t room m
    · have HPn : Hid (putN n f t room m = n) := by unfold putN; rw [Hid, if_neg (by rw [hP]; decide)]
      have HPf := Lib.hid hP
      have HE : Hid (RB4.Free w3.heap.size (w3.alloc (.cells #[] 34)) (.slice (some ⟨w3.heap.size, 0, none⟩) 0 0) []) := .inr ⟨rfl, _, rfl⟩
      have HD : Hid (Below w3.heap.size w3 (w3.alloc (.cells #[] 34))) := (Below.refl _ _).alloc (Nat.le_refl _) _
      have HS : Hid (RB4.Is (w3.alloc (.cells #[] 34)) (.slice p xs0.length c) xs0) := (HIs0.out.below HB3w.out).below HD.out
      have HDw : Hid (Below w.heap.size w (w3.alloc (.cells #[] 34))) := bcall HB3w.out HD.out HB3w.out.size
      have HLe : Hid (([] : List BW).length + xs0.length ≤ 900000) := by have := HXn.out; have := HN1.out; rw [Hid]; simp; omega
      clear hP HIs0 HO HI HNe HLl
      go_wp2_with (at_builtin; refine RowKind.Free.append (R := RB4) (ys := xs0) (by decide) rfl _ _ rfl HE.out rfl rfl HS.out HLe.out HD.out.size ?_; intro v6 w7 hO6 hG6 hS6 hL6; have HF : Hid (IsBs w7 v6 n ∧ capOk v6 ∧ Below w.heap.size w w7) := ⟨⟨xs0, by have q := hO6.is; rw [List.nil_append] at q; exact q, HAr.out.below (hG6.below HDw.out HB3w.out.size HDw.out.size)⟩, capB_free hO6, hG6.below HDw.out HB3w.out.size HDw.out.size⟩; clear hO6 hG6 hS6 hL6)
      go_returns
      exact ⟨_, by rw [HPf.out]; rfl, by rw [HPn.out]; exact HF.out.1, HF.out.2.1, HF.out.2.2⟩
    · have HPn : Hid (putN n f t room m = putL n f t m) := by unfold putN; rw [Hid, if_pos (by rw [hP])]
      have HGd : Hid (GoodN n) := (rightN_iff n).1 (HNe.out hP)
      have c0 : w3.cell? ⟨w.heap.size, 0, none⟩ = some (.int .i64 m.e) := HX3.out.cell 0
      have c1 : w3.cell? ⟨w.heap.size, 1, none⟩ = some (.int .i64 m.d) := HX3.out.cell 1
      have c2 : w3.cell? ⟨w.heap.size, 2, none⟩ = some (.int .i64 m.c0) := HX3.out.cell 2
      have c3 : w3.cell? ⟨w.heap.size, 3, none⟩ = some (.int .i64 m.c1) := HX3.out.cell 3
      have c4 : w3.cell? ⟨w.heap.size, 4, none⟩ = some (.int .i64 m.c2) := HX3.out.cell 4
      have c5 : w3.cell? ⟨w.heap.size, 5, none⟩ = some (.int .i64 m.c3) := HX3.out.cell 5
      have c6 : w3.cell? ⟨w.heap.size, 6, none⟩ = some (.int .i64 m.k) := HX3.out.cell 6
      have c7 : w3.cell? ⟨w.heap.size, 7, none⟩ = some (.int .i64 m.v) := HX3.out.cell 7
      have c8 : w3.cell? ⟨w.heap.size, 8, none⟩ = some (.int .i64 m.n) := HX3.out.cell 8
      have c9 : w3.cell? ⟨w.heap.size, 9, none⟩ = some (.int .i64 m.c) := HX3.out.cell 9
      have HPf := Lib.hid hP
      clear hP HNe HLl
      go_upto_region 5 with (fail)
      refine gen_world (fun W4 => Below w3.heap.size w3 W4 ∧ Boxed W4 w3.heap.size (mvRow m) 29 ∧ Boxed W4 (w3.heap.size + 1) #[.int .i64 m.e, .int .i64 f, .int .i64 t, .slice (some ⟨w3.heap.size, 0, none⟩) 1 1] 34) ⟨by first | exact ((Below.refl _ _).alloc (Nat.le_refl _) _).alloc (by simp) _ | go_grown, by first | exact (Boxed.new _ _ _).alloc _ | skip, by first | (have q := Boxed.new (w3.alloc (.cells (mvRow m) 29)) #[.int .i64 m.e, .int .i64 f, .int .i64 t, .slice (some ⟨w3.heap.size, 0, none⟩) 1 1] 34; simpa using q) | skip⟩ ?_
      rintro w4 ⟨hb4, hx4, hy4⟩
      have HB4 := Lib.hid (bcall HB3w.out hb4 HB3w.out.size)
      have HX4 := Lib.hid (HX3.out.below hb4 HX3.out.lt)
      have HL4 := Lib.hid hx4
      have HF4 := Lib.hid hy4
      have HZ3 := Lib.hid HB3w.out.size
      generalize w3.heap.size = bl at *
      clear c0 c1 c2 c3 c4 c5 c6 c7 c8 c9 hb4 hx4 hy4 HX3 HB3w
      go_wp2_with fail
      go_loopg [14, 15, 16] n.length (fun g2 v14 dv iv wr => ∃ (k : Nat) (dn : Bool), k ≤ n.length ∧ n.length - k ≤ g2 ∧ iv = .int .i64 (k : Int) ∧ dv = .bool dn ∧ Hid (PS w w4 w.heap.size (bl + 1) xs0 n f t m v14 dn k wr))
      case atStart => exact ⟨0, false, Nat.zero_le _, by omega, rfl, rfl, .inl ⟨rfl, RowKind.Own.nil RB4 _ _, Below.refl _ _, fun j hj => absurd hj (Nat.not_lt_zero j)⟩, HB4.out, Nat.le_refl _, HX4.out⟩
      case round =>
        obtain ⟨k, dn, hk, hg2, rfl, rfl, HS⟩ := hrel
        rename World => wr
        by_cases hlt : k < n.length
        · have hk1000 : k < 1000 := by have := HN1.out; omega
          have hkx : k < xs0.length := by have := HXn.out; omega
          have hkz : (k : Int) < (xs0.length : Int) := by omega
          obtain ⟨b, off, rfl, hb, hrow⟩ := HO.out k hkx
          have HRw := Lib.hid (fun (W : World) (hW : Below w.heap.size w W) => atB4 (w := W) (hrow.below hW hb) k hkx)
          have HBx := Lib.hid (HAr.out.2 k hlt)
          have HTk : Hid (xs0.take k ++ [xs0[k]!] = xs0.take (k + 1)) := by rw [Hid, List.take_succ_eq_append_getElem hkx, getElem!_pos xs0 k hkx]
          have hz : isZ (xs0[k]!).e (xs0[k]!).f (xs0[k]!).t m.e f t = isB n[k]! m.e f t := by rw [HBx.out.e, HBx.out.f, HBx.out.t]; rfl
          have hy : aheadZ m.e f t (xs0[k]!).e (xs0[k]!).f (xs0[k]!).t = aheadB ⟨m.e, f, t, [m]⟩ n[k]! := by rw [HBx.out.e, HBx.out.f, HBx.out.t]; rfl
          generalize xs0[k]! = r at *
          obtain ⟨re, rf, rt, rp, rn, rc⟩ := r
          simp only at hz hy
          clear hrow hkx
          obtain ⟨e0, e1, e2, e3⟩ := HRw.out wr HS.out.below
          try simp only at e0 e1 e2 e3
          have cm : wr.cell? ⟨w.heap.size, 0, none⟩ = some (.int .i64 m.e) := HS.out.box.cell 0
          have E0 := fun p => beh_cell e0 p
          have E1 := fun p => beh_cell e1 p
          have E2 := fun p => beh_cell e2 p
          have E3 := fun p => beh_cell e3 p
          have CM := fun p => beh_cell cm p
          have K1 : Hid (∀ p : Beh wr, Calls Try.prog 22 #[.agg #[.int .i64 re, .int .i64 rf, .int .i64 rt, .slice rp rn rc], .int .i64 m.e, .int .i64 f, .int .i64 t] p.w (Ret (.bool (isZ re rf rt m.e f t)) p.w)) := fun p => HIs.out re rf rt _ m.e f t p.w
          rw [hz] at K1
          clear e0 e1 e2 e3 cm hz
          cases dn
          · rcases HS.out.ex with ⟨_, hOw, hBl, hNo⟩ | ⟨q, _⟩
            · have HOw := Lib.hid hOw
              have HBl := Lib.hid hBl
              have HNo := Lib.hid hNo
              have HSb := Lib.hid HS.out.below
              clear hOw hBl hNo HS
              cases hq : isB n[k]! m.e f t
              · rw [hq] at K1
                go_wp2_with fail
                refine wp_region_beh (by kernel_rfl) (by kernel_rfl) ?_
                repeat (first | go_big_quiet_step (first | (with_reducible exact Calls.beh (K1.out _))) | quiet_step (first | (with_reducible exact Calls.beh (K1.out _))))
                refine wpQuiet_nil ?_
                intro _ hw'
                obtain ⟨g, hw''⟩ := hw'
                subst hw''
                
                have HBl2 := Lib.hid (bcall HBl.out g.h HBl.out.size)
                have HOw2 := Lib.hid (HOw.out.below g.h)
                clear E0 E1 E2 E3 CM K1 HOw HBl HSb
                generalize g.w = wq at *
                clear g
                have HSq : Hid (Below w.heap.size w wq) := bcall HB4.out HBl2.out HB4.out.size
                obtain ⟨e0, e1, e2, e3⟩ := HRw.out wq HSq.out
                try simp only at e0 e1 e2 e3
                have HFq := HF4.out.below HBl2.out HF4.out.lt
                have f0 : wq.cell? ⟨bl + 1, 0, none⟩ = some (.int .i64 m.e) := HFq.cell 0
                have f1 : wq.cell? ⟨bl + 1, 1, none⟩ = some (.int .i64 f) := HFq.cell 1
                have f2 : wq.cell? ⟨bl + 1, 2, none⟩ = some (.int .i64 t) := HFq.cell 2
                have f3 : wq.cell? ⟨bl + 1, 3, none⟩ = some (.slice (some ⟨bl, 0, none⟩) 1 1) := HFq.cell 3
                have E0 := fun p => beh_cell e0 p
                have E1 := fun p => beh_cell e1 p
                have E2 := fun p => beh_cell e2 p
                have E3 := fun p => beh_cell e3 p
                have F0 := fun p => beh_cell f0 p
                have F1 := fun p => beh_cell f1 p
                have F2 := fun p => beh_cell f2 p
                have F3 := fun p => beh_cell f3 p
                have K2 : Hid (∀ p : Beh wq, Calls Try.prog 23 #[.agg #[.int .i64 m.e, .int .i64 f, .int .i64 t, .slice (some ⟨bl, 0, none⟩) 1 1], .agg #[.int .i64 re, .int .i64 rf, .int .i64 rt, .slice rp rn rc]] p.w (Ret (.bool (aheadZ m.e f t re rf rt)) p.w)) := fun p => HAh.out m.e f t _ re rf rt _ p.w
                rw [hy] at K2
                clear e0 e1 e2 e3 f0 f1 f2 f3 HFq hy
                cases hA : aheadB ⟨m.e, f, t, [m]⟩ n[k]!
                · rw [hA] at K2
                  go_wp2_with fail
                  refine wp_region_beh (by kernel_rfl) (by kernel_rfl) ?_
                  repeat (first | go_big_quiet_step (first | (with_reducible exact Calls.beh (K2.out _))) | quiet_step (first | (with_reducible exact Calls.beh (K2.out _))))
                  refine wpQuiet_nil ?_
                  intro _ hw'
                  obtain ⟨g, hw''⟩ := hw'
                  subst hw''
                  
                  have HBl3 := Lib.hid (bcall HBl2.out g.h HBl2.out.size)
                  have HOw3 := Lib.hid (HOw2.out.below g.h)
                  clear E0 E1 E2 E3 F0 F1 F2 F3 K2 HOw2 HBl2 HSq
                  generalize g.w = wu at *
                  clear g
                  have HSu : Hid (Below w.heap.size w wu) := bcall HB4.out HBl3.out HB4.out.size
                  obtain ⟨e0, e1, e2, e3⟩ := HRw.out wu HSu.out
                  try simp only at e0 e1 e2 e3
                  have HNo2 : Hid (∀ j, j < k + 1 → isB n[j]! m.e f t = false ∧ aheadB ⟨m.e, f, t, [m]⟩ n[j]! = false) := fun j hj => by
                    by_cases q : j = k
                    · subst q; exact ⟨hq, hA⟩
                    · exact HNo.out j (by omega)
                  have HLe : Hid (((xs0.take k).length + 1) * RB4.bytes ≤ 140737488355328) := by
                    have := HN1.out
                    have h48 : RB4.bytes = 48 := rfl
                    rw [Hid, List.length_take, h48]; omega
                  clear hq hA HNo
                  go_wp2_with (at_builtin; refine RowKind.Own.pushL (R := RB4) (y := ⟨re, rf, rt, rp, rn, rc⟩) HOw3.out HBl3.out HBl3.out.size (by decide) rfl _ _ rfl rfl 34 rfl HLe.out (Nat.le_refl _) ?_; intro v9 w9 hO9 hB9 hz9; have HB9 := Lib.hid hB9; have HO9 := Lib.hid hO9; clear hO9 hB9 hz9 e0 e1 e2 e3)
                  go_roundg (n.length - (k + 1))
                  case measure => omega
                  case rel => exact ⟨k + 1, false, by omega, by omega, by go_num, rfl, .inl ⟨rfl, by rw [← HTk.out]; exact HO9.out, HB9.out, HNo2.out⟩, bcall HB4.out HB9.out HB4.out.size, HB9.out.size, HX4.out.below HB9.out HX4.out.lt⟩
                · rw [hA] at K2
                  go_wp2_with fail
                  refine wp_region_beh (by kernel_rfl) (by kernel_rfl) ?_
                  repeat (first | go_big_quiet_step (first | (with_reducible exact Calls.beh (K2.out _))) | quiet_step (first | (with_reducible exact Calls.beh (K2.out _))))
                  refine wpQuiet_nil ?_
                  intro _ hw'
                  obtain ⟨g, hw''⟩ := hw'
                  subst hw''
                  
                  have HBl3 := Lib.hid (bcall HBl2.out g.h HBl2.out.size)
                  have HOw3 := Lib.hid (HOw2.out.below g.h)
                  clear E0 E1 E2 E3 F0 F1 F2 F3 K2 HOw2 HBl2 HSq
                  generalize g.w = wu at *
                  clear g
                  have HSu : Hid (Below w.heap.size w wu) := bcall HB4.out HBl3.out HB4.out.size
                  have HO0 : Hid (OutB w4.heap.size wu u14 (n.take k)) := OutB.copy (A := 0) HOw3.out (HAr.out.take k) HSu.out HB4.out.size
                  have HPl := Lib.hid (put_new (f := f) (t := t) (m := m) hlt HNo.out hq hA)
                  have HNb : Hid (∀ j, k + 1 ≤ j → j < n.length → isB n[j]! m.e f t = false) := fun j hj hjn => none_behind HGd.out hlt (.inr hA) j (by omega) hjn
                  have HXm := Lib.hid (HX4.out.below HBl3.out HX4.out.lt)
                  have HFu := HF4.out.below HBl3.out HF4.out.lt
                  have f0 : wu.cell? ⟨bl + 1, 0, none⟩ = some (.int .i64 m.e) := HFu.cell 0
                  have f1 : wu.cell? ⟨bl + 1, 1, none⟩ = some (.int .i64 f) := HFu.cell 1
                  have f2 : wu.cell? ⟨bl + 1, 2, none⟩ = some (.int .i64 t) := HFu.cell 2
                  have f3 : wu.cell? ⟨bl + 1, 3, none⟩ = some (.slice (some ⟨bl, 0, none⟩) 1 1) := HFu.cell 3
                  have HLu := Lib.hid (HL4.out.below HBl3.out HL4.out.lt)
                  have HLlt : Hid (bl < w4.heap.size) := HL4.out.lt
                  have HLe : Hid ((n.take k).length + 1 ≤ 900000) := by have := HN1.out; rw [Hid, List.length_take]; omega
                  have HLe2 : Hid (((n.take k) ++ [(⟨m.e, f, t, [m]⟩ : BV)]).length + 1 ≤ 900000) := by have := HN1.out; rw [Hid, List.length_append, List.length_take]; simp; omega
                  have HAw : Hid (Below w.heap.size w (wu.alloc (.cells (RB4.enc ⟨m.e, f, t, some ⟨bl, 0, none⟩, 1, 1⟩).toArray 34))) := HSu.out.alloc HSu.out.size _
                  have HA4 : Hid (Below w4.heap.size w4 (wu.alloc (.cells (RB4.enc ⟨m.e, f, t, some ⟨bl, 0, none⟩, 1, 1⟩).toArray 34))) := HBl3.out.alloc HBl3.out.size _
                  clear hq hA HNo HFu HOw3
                  go_upto_region 16 with (at_builtin; refine OutB.append (b := ⟨m.e, f, t, [m]⟩) rfl _ _ rfl ⟨m.e, f, t, some ⟨bl, 0, none⟩, 1, 1⟩ (HO0.out.below ((Below.refl _ _).alloc (Nat.le_refl _) (.cells (RB4.enc ⟨m.e, f, t, some ⟨bl, 0, none⟩, 1, 1⟩).toArray 34))) rfl rfl (.inr ⟨by simp, wu.heap.size, 0, 1, rfl, by simp, RowKind.Row.new (R := RB4) wu _ 34⟩) ⟨rfl, rfl, rfl, rfl, Nat.le_refl _, one_msg (HLu.out.alloc _)⟩ (fun _ b o c d e q => by have h1 := (HO0.out.lt b q).1; have h2 := HLlt.out; simp only [Value.slice.injEq, Option.some.injEq, Addr.mk.injEq] at e; omega) HLe.out HA4.out.size ?_; intro v9 w9 hO9 hG9 hS9; have HO9 := Lib.hid hO9; have HB9 := Lib.hid (hG9.below HAw.out HB4.out.size HAw.out.size); have HM9 := Lib.hid (hG9.boxed (HXm.out.alloc _) (by decide)); have HZ9 := Lib.hid (Nat.le_trans HA4.out.size hG9.size); clear hO9 hG9 hS9 f0 f1 f2 f3; obtain ⟨e0, e1, e2, e3⟩ := HRw.out w9 HB9.out)
                  try simp only at e0 e1 e2 e3
                  clear HXm HLu HLe HAw HA4 HO0 HSu HBl3
                  have HAw : Hid (Below w.heap.size w (w9.alloc (.cells (RB4.enc ⟨re, rf, rt, rp, rn, rc⟩).toArray 34))) := HB9.out.alloc HB9.out.size _
                  have HA4 : Hid (w4.heap.size ≤ (w9.alloc (.cells (RB4.enc ⟨re, rf, rt, rp, rn, rc⟩).toArray 34)).heap.size) := by have := HZ9.out; rw [Hid]; simp; omega
                  go_wp2_with (at_builtin; refine OutB.append (b := n[k]!) rfl _ _ rfl ⟨re, rf, rt, rp, rn, rc⟩ (HO9.out.below ((Below.refl _ _).alloc (Nat.le_refl _) (.cells (RB4.enc ⟨re, rf, rt, rp, rn, rc⟩).toArray 34))) rfl rfl (.inr ⟨by simp, w9.heap.size, 0, 1, rfl, by simp, RowKind.Row.new (R := RB4) w9 _ 34⟩) (HBx.out.below HAw.out) (fun hne b o c d e q => by have h1 := (HO9.out.lt b q).1; have h2 := is_blockG HBx.out.l hne e; have h3 := HB4.out.size; omega) HLe2.out HA4.out ?_; intro v10 w10 hO10 hG10 hS10; have HO10 := Lib.hid hO10; have HB10 := Lib.hid (hG10.below HAw.out HB4.out.size HAw.out.size); have HM10 := Lib.hid (hG10.boxed (HM9.out.alloc _) (by decide)); have HZ10 := Lib.hid (Nat.le_trans HA4.out hG10.size); clear hO10 hG10 hS10)
                  go_roundg (n.length - (k + 1))
                  case measure => omega
                  case rel => exact ⟨k + 1, true, by omega, by omega, by go_num, rfl, .inr ⟨rfl, _, HO10.out, by simp; omega, HPl.out.symm, HNb.out⟩, HB10.out, HZ10.out, HM10.out⟩
              · rw [hq] at K1
                go_wp2_with fail
                refine wp_region_beh (by kernel_rfl) (by kernel_rfl) ?_
                repeat (first | go_big_quiet_step (first | (with_reducible exact Calls.beh (K1.out _))) | quiet_step (first | (with_reducible exact Calls.beh (K1.out _))))
                refine wpQuiet_nil ?_
                intro _ hw'
                obtain ⟨g, hw''⟩ := hw'
                subst hw''
                have HBl2 := Lib.hid (bcall HBl.out g.h HBl.out.size)
                have HOw2 := Lib.hid (HOw.out.below g.h)
                clear E0 E1 E2 E3 CM K1 HOw HBl HSb hy
                generalize g.w = wq at *
                clear g
                have HSq : Hid (Below w.heap.size w wq) := bcall HB4.out HBl2.out HB4.out.size
                have HPl := Lib.hid (put_hit (f := f) (t := t) (m := m) hlt HNo.out hq)
                have HNb : Hid (∀ j, k + 1 ≤ j → j < n.length → isB n[j]! m.e f t = false) := fun j hj hjn => none_behind (l := []) HGd.out hlt (.inl hq) j (by omega) hjn
                have hrn : rn = (n[k]!).l.length := HBx.out.n
                have HIl : Hid (∀ W, Below wq.heap.size wq W → RM.Is W (.slice rp rn rc) (n[k]!).l) := fun W hW => (HBx.out.l.below HSq.out).below hW
                have HL5 : Hid ((n[k]!).l.length ≤ 5000) := HL5n.out _ (by rw [getElem!_pos n k hlt]; exact List.getElem_mem hlt)
                generalize (n[k]!).l = li at HPl hrn HIl HL5
                have hblq : bl + 1 < wq.heap.size := Nat.lt_of_lt_of_le HF4.out.lt HBl2.out.size
                have hzb := HZ3.out
                have hmb : w.heap.size < bl + 1 := by omega
                have hbb : b < bl + 1 := by omega
                have HKeep : Hid (∀ W, Below wq.heap.size wq W → (W.cell? ⟨b, off + k * 4 + 3, none⟩ = some (.slice rp rn rc) ∧ W.cell? ⟨w.heap.size, 0, none⟩ = some (.int .i64 m.e) ∧ W.cell? ⟨w.heap.size, 1, none⟩ = some (.int .i64 m.d) ∧ W.cell? ⟨w.heap.size, 2, none⟩ = some (.int .i64 m.c0) ∧ W.cell? ⟨w.heap.size, 3, none⟩ = some (.int .i64 m.c1) ∧ W.cell? ⟨w.heap.size, 4, none⟩ = some (.int .i64 m.c2) ∧ W.cell? ⟨w.heap.size, 5, none⟩ = some (.int .i64 m.c3) ∧ W.cell? ⟨w.heap.size, 6, none⟩ = some (.int .i64 m.k) ∧ W.cell? ⟨w.heap.size, 7, none⟩ = some (.int .i64 m.v) ∧ W.cell? ⟨w.heap.size, 8, none⟩ = some (.int .i64 m.n) ∧ W.cell? ⟨w.heap.size, 9, none⟩ = some (.int .i64 m.c))) := fun W hW => by
                  have X := (HX4.out.below HBl2.out HX4.out.lt).below hW (Nat.lt_of_lt_of_le HX4.out.lt HBl2.out.size)
                  exact ⟨(HRw.out W (bcall HSq.out hW HSq.out.size)).2.2.2, X.cell 0, X.cell 1, X.cell 2, X.cell 3, X.cell 4, X.cell 5, X.cell 6, X.cell 7, X.cell 8, X.cell 9⟩
                have HFin : Hid (∀ (W : World) (v : Value), Below wq.heap.size wq W → RM.Free wq.heap.size W v (li ++ [m]) → ∃ p c, v = .slice p (li.length + 1) c ∧ W.cell? ⟨bl + 1, 3, none⟩ = some (.slice (some ⟨bl, 0, none⟩) 1 1) ∧ W.frozen? ⟨bl + 1, 3, none⟩ = false ∧ ((W.setCell ⟨bl + 1, 3, none⟩ (.slice p (li.length + 1) c)).cell? ⟨b, off + k * 4 + 3, none⟩ = some (.slice rp rn rc) ∧ (W.setCell ⟨bl + 1, 3, none⟩ (.slice p (li.length + 1) c)).cell? ⟨w.heap.size, 0, none⟩ = some (.int .i64 m.e) ∧ (W.setCell ⟨bl + 1, 3, none⟩ (.slice p (li.length + 1) c)).cell? ⟨w.heap.size, 1, none⟩ = some (.int .i64 m.d) ∧ (W.setCell ⟨bl + 1, 3, none⟩ (.slice p (li.length + 1) c)).cell? ⟨w.heap.size, 2, none⟩ = some (.int .i64 m.c0) ∧ (W.setCell ⟨bl + 1, 3, none⟩ (.slice p (li.length + 1) c)).cell? ⟨w.heap.size, 3, none⟩ = some (.int .i64 m.c1) ∧ (W.setCell ⟨bl + 1, 3, none⟩ (.slice p (li.length + 1) c)).cell? ⟨w.heap.size, 4, none⟩ = some (.int .i64 m.c2) ∧ (W.setCell ⟨bl + 1, 3, none⟩ (.slice p (li.length + 1) c)).cell? ⟨w.heap.size, 5, none⟩ = some (.int .i64 m.c3) ∧ (W.setCell ⟨bl + 1, 3, none⟩ (.slice p (li.length + 1) c)).cell? ⟨w.heap.size, 6, none⟩ = some (.int .i64 m.k) ∧ (W.setCell ⟨bl + 1, 3, none⟩ (.slice p (li.length + 1) c)).cell? ⟨w.heap.size, 7, none⟩ = some (.int .i64 m.v) ∧ (W.setCell ⟨bl + 1, 3, none⟩ (.slice p (li.length + 1) c)).cell? ⟨w.heap.size, 8, none⟩ = some (.int .i64 m.n) ∧ (W.setCell ⟨bl + 1, 3, none⟩ (.slice p (li.length + 1) c)).cell? ⟨w.heap.size, 9, none⟩ = some (.int .i64 m.c)) ∧ OutB w4.heap.size (W.setCell ⟨bl + 1, 3, none⟩ (.slice p (li.length + 1) c)) u14 (n.take k) ∧ Below w.heap.size w (W.setCell ⟨bl + 1, 3, none⟩ (.slice p (li.length + 1) c)) ∧ w4.heap.size ≤ (W.setCell ⟨bl + 1, 3, none⟩ (.slice p (li.length + 1) c)).heap.size ∧ Boxed (W.setCell ⟨bl + 1, 3, none⟩ (.slice p (li.length + 1) c)) w.heap.size (mvRow m) 29 ∧ rowOf (W.setCell ⟨bl + 1, 3, none⟩ (.slice p (li.length + 1) c)) (bl + 1) = some #[.int .i64 m.e, .int .i64 f, .int .i64 t, .slice p (li.length + 1) c] ∧ isBx (W.setCell ⟨bl + 1, 3, none⟩ (.slice p (li.length + 1) c)) ⟨m.e, f, t, p, li.length + 1, c⟩ ⟨m.e, f, t, li ++ [m]⟩ ∧ OffG (fun x => u14.ownBlock = some x) (.slice p (li.length + 1) c)) := fun W v hW hF => by
                  have hO := free_ownM hF (by simp)
                  have hcp : ∀ p n c, v = .slice p n c → n ≤ c := fun p' n' c' e => by
                    obtain ⟨_, ⟨rfl, h0⟩ | ⟨g, cap, cur, rfl, _, _, hle, _⟩⟩ := hO
                    · cases e; exact Nat.le_refl _
                    · cases e; exact hle
                  obtain ⟨p, c, rfl⟩ := hO.is.slice
                  have hl1 : (li ++ [m]).length = li.length + 1 := by simp
                  rw [hl1] at hO hF hcp
                  rw [hl1]
                  have HB := HF4.out.below (bcall HBl2.out hW HBl2.out.size) HF4.out.lt
                  have hR := boxed_rowU HB
                  have hset := setCell_row hR 3 (.slice p (li.length + 1) c)
                  have hoth : ∀ x, x ≠ bl + 1 → (W.setCell ⟨bl + 1, 3, none⟩ (.slice p (li.length + 1) c)).heap[x]? = W.heap[x]? := fun x hx => by rw [hset]; exact heap_setRow _ _ _ x hx
                  have hsz : (W.setCell ⟨bl + 1, 3, none⟩ (.slice p (li.length + 1) c)).heap.size = W.heap.size := by rw [hset, size_setRow]
                  have hrow : rowOf (W.setCell ⟨bl + 1, 3, none⟩ (.slice p (li.length + 1) c)) (bl + 1) = some #[.int .i64 m.e, .int .i64 f, .int .i64 t, .slice p (li.length + 1) c] := by
                    rw [hset]; exact rowOf_setRow_same _ _ (by rw [hR]; rfl)
                  have hos : (W.setCell ⟨bl + 1, 3, none⟩ (.slice p (li.length + 1) c)).os = W.os ∧ (W.setCell ⟨bl + 1, 3, none⟩ (.slice p (li.length + 1) c)).tape = W.tape ∧ (W.setCell ⟨bl + 1, 3, none⟩ (.slice p (li.length + 1) c)).output = W.output := by rw [hset]; exact ⟨rfl, rfl, rfl⟩
                  refine ⟨p, c, rfl, HB.cell 3, HB.frozen 3, ?_⟩
                  generalize W.setCell ⟨bl + 1, 3, none⟩ (.slice p (li.length + 1) c) = W2 at *
                  have hSW := bcall HSq.out hW HSq.out.size
                  have hB2 : Below w.heap.size w W2 := ⟨hos.1.trans hSW.os, hos.2.1.trans hSW.tape, hos.2.2.trans hSW.output, by rw [hsz]; exact hSW.size, fun x hx => (hoth x (by omega)).trans (hSW.block x hx)⟩
                  have X : Boxed W2 w.heap.size (mvRow m) 29 := (hoth _ (by omega)).trans ((HX4.out.below HBl2.out HX4.out.lt).below hW (Nat.lt_of_lt_of_le HX4.out.lt HBl2.out.size))
                  have hOw : RB4.Own w4.heap.size W2 u14 (xs0.take k) := (HOw2.out.below hW).keepK fun x hx => hoth x (by have := (HOw2.out.lt x hx).1; have := HF4.out.lt; omega)
                  have hoff : ∀ x o n' c', (Value.slice p (li.length + 1) c) = .slice (some ⟨x, o, none⟩) n' c' → wq.heap.size ≤ x := fun x o n' c' e => (hO.lt x (by rw [e]; rfl)).1
                  refine ⟨⟨(HRw.out W2 hB2).2.2.2, X.cell 0, X.cell 1, X.cell 2, X.cell 3, X.cell 4, X.cell 5, X.cell 6, X.cell 7, X.cell 8, X.cell 9⟩, OutB.copy (A := 0) hOw (HAr.out.take k) hB2 HB4.out.size, hB2, by rw [hsz]; exact Nat.le_trans HBl2.out.size hW.size, X, hrow, ⟨rfl, rfl, rfl, hl1.symm, hcp _ _ _ rfl, ?_⟩, fun x o n' c' e hx => ?_⟩
                  · exact is_keepG (G := fun x => x = bl + 1) hO.is (fun _ x o n' c' e hx => by have := hoff x o n' c' e; omega) (by rw [hsz]; exact Nat.le_refl _) fun x _ hx => hoth x hx
                  · have h1 := hoff x o n' c' e
                    have h2 := (HOw2.out.lt x hx).2
                    omega
                have HWd : Hid (Below wq.heap.size wq wq.drew) := (Below.refl _ _).drew
                have HWa : Hid (Below wq.heap.size wq (wq.drew.alloc (.cells #[] 29))) := HWd.out.alloc (Nat.le_refl _) _
                have HWm : Hid (Below wq.heap.size wq (wq.drew.alloc (.cells (mvRow m) 29))) := HWd.out.alloc (Nat.le_refl _) _
                have HWb : Hid (Below wq.heap.size wq ((wq.drew.alloc (.cells #[] 29)).alloc (.cells (mvRow m) 29))) := HWa.out.alloc HWa.out.size _
                have HWc : Hid (Below wq.heap.size wq ((wq.drew.alloc (.cells (mvRow m) 29)).alloc (.cells #[] 29))) := HWm.out.alloc HWm.out.size _
                have HMb : Hid (Boxed ((wq.drew.alloc (.cells #[] 29)).alloc (.cells (mvRow m) 29)) (wq.heap.size + 1) (mvRow m) 29) := by
                  have q := Boxed.new (wq.drew.alloc (.cells #[] 29)) (mvRow m) 29
                  have e : (wq.drew.alloc (.cells #[] 29)).heap.size = wq.heap.size + 1 := World.size_alloc _ _
                  rw [e] at q
                  exact q
                have HMc : Hid (Boxed ((wq.drew.alloc (.cells (mvRow m) 29)).alloc (.cells #[] 29)) wq.heap.size (mvRow m) 29) := (Boxed.new wq.drew (mvRow m) 29).alloc _
                have HSd := Lib.hid (HKeep.out _ HWd.out)
                have HSa := Lib.hid (HKeep.out _ HWa.out)
                have HSm := Lib.hid (HKeep.out _ HWm.out)
                have HSb := Lib.hid (HKeep.out _ HWb.out)
                have HSc := Lib.hid (HKeep.out _ HWc.out)
                obtain ⟨s0, s1, s2, s3, s4, s5, s6, s7, s8, s9, s10⟩ := HKeep.out wq (Below.refl _ _)
                have HLe : Hid (([] : List MV).length + li.length ≤ 900000) := by rw [Hid]; have := HL5.out; simp; omega
                have HLf : Hid (li.length + [m].length ≤ 900000) := by rw [Hid]; have := HL5.out; simp; omega
                have hkz2 : (k : Int) < (xs0.length : Int) := hkz
                clear HNo HF4 HOw2 HBl2 HSq HX4 HL5 hrn hq hblq hzb hmb hbb HBx
                go_upto_region 11 with (fail)
                go_region_held_law (fun w' => (w'.cell? ⟨b, off + k * 4 + 3, none⟩ = some (.slice rp rn rc) ∧ w'.cell? ⟨w.heap.size, 0, none⟩ = some (.int .i64 m.e) ∧ w'.cell? ⟨w.heap.size, 1, none⟩ = some (.int .i64 m.d) ∧ w'.cell? ⟨w.heap.size, 2, none⟩ = some (.int .i64 m.c0) ∧ w'.cell? ⟨w.heap.size, 3, none⟩ = some (.int .i64 m.c1) ∧ w'.cell? ⟨w.heap.size, 4, none⟩ = some (.int .i64 m.c2) ∧ w'.cell? ⟨w.heap.size, 5, none⟩ = some (.int .i64 m.c3) ∧ w'.cell? ⟨w.heap.size, 6, none⟩ = some (.int .i64 m.k) ∧ w'.cell? ⟨w.heap.size, 7, none⟩ = some (.int .i64 m.v) ∧ w'.cell? ⟨w.heap.size, 8, none⟩ = some (.int .i64 m.n) ∧ w'.cell? ⟨w.heap.size, 9, none⟩ = some (.int .i64 m.c))) (first | exact HSd.out | exact HSa.out | exact HSm.out | exact HSb.out | exact HSc.out | assumption) (first
                  | (refine RowKind.Free.appendR (R := RM) (B := wq.heap.size) (xs := li) (ys := [m]) (by decide) rfl _ _ rfl (hO9.alloc _) rfl rfl (one_msg (Boxed.new w9 (mvRow m) 29)) HLf.out (hD9.alloc hD9.size _).size ?_; intro v10 w10 hO10 hG10 hS10 hL10; have hD10 : Below wq.heap.size wq w10 := hG10.below (hD9.alloc hD9.size _) (Nat.le_refl _) (hD9.alloc hD9.size _).size; obtain ⟨p10, c10, rfl, t1, t2, t3, t4, t5, t6, t7, t8, t9, t10⟩ := HFin.out w10 v10 hD10 hO10; have HD10 := Lib.hid hD10; have T4 := Lib.hid t4; have T5 := Lib.hid t5; have T6 := Lib.hid t6; have T7 := Lib.hid t7; have T8 := Lib.hid t8; have T9 := Lib.hid t9; have T10 := Lib.hid t10; have hs10 := HKeep.out w10 hD10; clear hO9 hG9 hS9 hL9 hD9 hO10 hG10 hS10 hL10 hD10 t4 t5 t6 t7 t8 t9 t10)
                  | (refine RowKind.Free.appendR (R := RM) (B := wq.heap.size) (xs := li) (ys := [m]) (by decide) rfl _ _ rfl hO9 rfl rfl (one_msg hM9) HLf.out hD9.size ?_; intro v10 w10 hO10 hG10 hS10 hL10; have hD10 : Below wq.heap.size wq w10 := hG10.below hD9 (Nat.le_refl _) hD9.size; obtain ⟨p10, c10, rfl, t1, t2, t3, t4, t5, t6, t7, t8, t9, t10⟩ := HFin.out w10 v10 hD10 hO10; have HD10 := Lib.hid hD10; have T4 := Lib.hid t4; have T5 := Lib.hid t5; have T6 := Lib.hid t6; have T7 := Lib.hid t7; have T8 := Lib.hid t8; have T9 := Lib.hid t9; have T10 := Lib.hid t10; have hs10 := HKeep.out w10 hD10; clear hO9 hG9 hS9 hL9 hD9 hO10 hG10 hS10 hL10 hD10 t4 t5 t6 t7 t8 t9 t10)
                  | (refine RowKind.Free.appendR (R := RM) (B := wq.heap.size) (xs := []) (ys := li) (by decide) rfl _ _ rfl (.inr ⟨rfl, _, rfl⟩) rfl rfl (HIl.out _ HWa.out) HLe.out HWa.out.size ?_; intro v9 w9 hO9 hG9 hS9 hL9; rw [List.nil_append] at hO9; have hD9 : Below wq.heap.size wq w9 := hG9.below HWa.out (Nat.le_refl _) HWa.out.size; have hs9 := HKeep.out w9 hD9; have hs9a := HKeep.out (w9.alloc (.cells (mvRow m) 29)) (hD9.alloc hD9.size _))
                  | (refine RowKind.Free.appendR (R := RM) (B := wq.heap.size) (xs := []) (ys := li) (by decide) rfl _ _ rfl (.inr ⟨rfl, _, rfl⟩) rfl rfl (HIl.out _ HWb.out) HLe.out HWb.out.size ?_; intro v9 w9 hO9 hG9 hS9 hL9; rw [List.nil_append] at hO9; have hD9 : Below wq.heap.size wq w9 := hG9.below HWb.out (Nat.le_refl _) HWb.out.size; have hs9 := HKeep.out w9 hD9; have hM9 : Boxed w9 (wq.heap.size + 1) (mvRow m) 29 := (hG9.block _ HMb.out.lt (fun _ _ _ e => absurd (Option.some.inj e) (by show ¬ wq.heap.size = wq.heap.size + 1; omega))).trans HMb.out)
                  | (refine RowKind.Free.appendR (R := RM) (B := wq.heap.size) (xs := []) (ys := li) (by decide) rfl _ _ rfl (.inr ⟨rfl, _, rfl⟩) rfl rfl (HIl.out _ HWc.out) HLe.out HWc.out.size ?_; intro v9 w9 hO9 hG9 hS9 hL9; rw [List.nil_append] at hO9; have hD9 : Below wq.heap.size wq w9 := hG9.below HWc.out (Nat.le_refl _) HWc.out.size; have hs9 := HKeep.out w9 hD9; have hM9 : Boxed w9 wq.heap.size (mvRow m) 29 := (hG9.block _ HMc.out.lt (fun _ _ _ e => absurd (Option.some.inj e) (by show ¬ wq.heap.size + 1 = wq.heap.size; omega))).trans HMc.out))
                all_goals
                  try simp only [List.getElem_toArray, List.getElem_cons_succ, List.getElem_cons_zero, Act.put, List.setIfInBounds_toArray, List.set_cons_zero, List.set_cons_succ]
                all_goals
                  clear hs10 HD10 t1 t2 t3 HSd HSa HSm HSb HSc HWd HWa HWm HWb HWc HMb HMc HKeep HFin HIl HLe HLf s0 s1 s2 s3 s4 s5 s6 s7 s8 s9 s10
                  generalize w10.setCell ⟨bl + 1, 3, none⟩ (.slice p10 (li.length + 1) c10) = wv at *
                  have f0 : wv.cell? ⟨bl + 1, 0, none⟩ = some (.int .i64 m.e) := rowOf_cell T8.out 0
                  have f1 : wv.cell? ⟨bl + 1, 1, none⟩ = some (.int .i64 f) := rowOf_cell T8.out 1
                  have f2 : wv.cell? ⟨bl + 1, 2, none⟩ = some (.int .i64 t) := rowOf_cell T8.out 2
                  have f3 : wv.cell? ⟨bl + 1, 3, none⟩ = some (.slice p10 (li.length + 1) c10) := rowOf_cell T8.out 3
                  have HLe2 : Hid ((n.take k).length + 1 ≤ 900000) := by have := HN1.out; rw [Hid, List.length_take]; omega
                  have HAq : Hid (Below wv.heap.size wv (wv.alloc (.cells (RB4.enc ⟨m.e, f, t, p10, li.length + 1, c10⟩).toArray 34))) := (Below.refl _ _).alloc (Nat.le_refl _) _
                  have HAw : Hid (Below w.heap.size w (wv.alloc (.cells (RB4.enc ⟨m.e, f, t, p10, li.length + 1, c10⟩).toArray 34))) := T5.out.alloc T5.out.size _
                  have HA4 : Hid (w4.heap.size ≤ (wv.alloc (.cells (RB4.enc ⟨m.e, f, t, p10, li.length + 1, c10⟩).toArray 34)).heap.size) := Nat.le_trans T6.out HAq.out.size
                  clear T8
                  go_wp2_with (at_builtin; refine OutB.append (b := ⟨m.e, f, t, li ++ [m]⟩) rfl _ _ rfl ⟨m.e, f, t, p10, li.length + 1, c10⟩ (T4.out.below HAq.out) rfl rfl (.inr ⟨by simp, wv.heap.size, 0, 1, rfl, by simp, RowKind.Row.new (R := RB4) wv _ 34⟩) (T9.out.below HAq.out) (fun _ => T10.out) HLe2.out HA4.out ?_; intro v11 w11 hO11 hG11 hS11; have HO11 := Lib.hid hO11; have HB11 := Lib.hid (hG11.below HAw.out HB4.out.size HAw.out.size); have HM11 := Lib.hid (hG11.boxed (T7.out.alloc _) (by decide)); have HZ11 := Lib.hid (Nat.le_trans HA4.out hG11.size); clear hO11 hG11 hS11 f0 f1 f2 f3)
                  go_roundg (n.length - (k + 1))
                  case measure => omega
                  case rel => exact ⟨k + 1, true, by omega, by omega, by go_num, rfl, .inr ⟨rfl, _, HO11.out, by simp; omega, HPl.out.symm, HNb.out⟩, HB11.out, HZ11.out, HM11.out⟩
            · cases q
          · rcases HS.out.ex with ⟨q, _⟩ | ⟨_, outN, hO, hle, hPl, hNb⟩
            · cases q
            · rw [hNb k (Nat.le_refl _) hlt] at K1
              have HO0 := Lib.hid hO
              have HPl : Hid ((outN ++ [n[k]!]) ++ n.drop (k + 1) = putL n f t m) := by rw [Hid, List.append_assoc, ← hPl, List.drop_eq_getElem_cons hlt, getElem!_pos n k hlt]; rfl
              have HNb2 : Hid (∀ j, k + 1 ≤ j → j < n.length → isB n[j]! m.e f t = false) := fun j hj hjn => hNb j (by omega) hjn
              have HSb := Lib.hid HS.out.below
              have HM := Lib.hid HS.out.box
              have HZ := Lib.hid HS.out.big
              clear hO hPl hNb HS hy
              go_wp2_with fail
              refine wp_region_beh (by kernel_rfl) (by kernel_rfl) ?_
              repeat (first | go_big_quiet_step (first | (with_reducible exact Calls.beh (K1.out _))) | quiet_step (first | (with_reducible exact Calls.beh (K1.out _))))
              refine wpQuiet_nil ?_
              intro _ hw'
              obtain ⟨g, hw''⟩ := hw'
              subst hw''
              
              have HO1 := Lib.hid (HO0.out.below g.h)
              have HS1 := Lib.hid (bcall HSb.out g.h HSb.out.size)
              have HM1 := Lib.hid (HM.out.below g.h HM.out.lt)
              have HZ1 := Lib.hid (Nat.le_trans HZ.out g.h.size)
              clear E0 E1 E2 E3 CM HO0 HSb HM HZ
              generalize g.w = wq at *
              clear g K1
              go_wp2_with fail
              refine wp_region_beh (by kernel_rfl) (by kernel_rfl) ?_
              repeat (first | go_big_quiet_step (fail) | quiet_step (fail))
              refine wpQuiet_nil ?_
              intro _ hw'
              obtain ⟨g, hw''⟩ := hw'
              subst hw''
              have HO9 := Lib.hid (HO1.out.below g.h)
              have HB9 := Lib.hid (bcall HS1.out g.h HS1.out.size)
              have HM9 := Lib.hid (HM1.out.below g.h HM1.out.lt)
              have HZ9 := Lib.hid (Nat.le_trans HZ1.out g.h.size)
              clear HO1 HS1 HM1 HZ1
              generalize g.w = w9 at *
              clear g
              obtain ⟨e0, e1, e2, e3⟩ := HRw.out w9 HB9.out
              try simp only at e0 e1 e2 e3
              have HLe2 : Hid (outN.length + 1 ≤ 900000) := by rw [Hid]; omega
              have HAw : Hid (Below w.heap.size w (w9.alloc (.cells (RB4.enc ⟨re, rf, rt, rp, rn, rc⟩).toArray 34))) := HB9.out.alloc HB9.out.size _
              have HA4 : Hid (w4.heap.size ≤ (w9.alloc (.cells (RB4.enc ⟨re, rf, rt, rp, rn, rc⟩).toArray 34)).heap.size) := by have := HZ9.out; rw [Hid]; simp; omega
              go_wp2_with (at_builtin; refine OutB.append (b := n[k]!) rfl _ _ rfl ⟨re, rf, rt, rp, rn, rc⟩ (HO9.out.below ((Below.refl _ _).alloc (Nat.le_refl _) (.cells (RB4.enc ⟨re, rf, rt, rp, rn, rc⟩).toArray 34))) rfl rfl (.inr ⟨by simp, w9.heap.size, 0, 1, rfl, by simp, RowKind.Row.new (R := RB4) w9 _ 34⟩) (HBx.out.below HAw.out) (fun hne b o c d e q => by have h1 := (HO9.out.lt b q).1; have h2 := is_blockG HBx.out.l hne e; have h3 := HB4.out.size; omega) HLe2.out HA4.out ?_; intro v10 w10 hO10 hG10 hS10; have HO10 := Lib.hid hO10; have HB10 := Lib.hid (hG10.below HAw.out HB4.out.size HAw.out.size); have HM10 := Lib.hid (hG10.boxed (HM9.out.alloc _) (by decide)); have HZ10 := Lib.hid (Nat.le_trans HA4.out hG10.size); clear hO10 hG10 hS10)
              go_roundg (n.length - (k + 1))
              case measure => omega
              case rel => exact ⟨k + 1, true, by omega, by omega, by go_num, rfl, .inr ⟨rfl, _, HO10.out, by simp; omega, HPl.out, HNb2.out⟩, HB10.out, HZ10.out, HM10.out⟩
        · obtain rfl : k = n.length := by omega
          have hkz : ¬ ((n.length : Nat) : Int) < (xs0.length : Int) := by have := HXn.out; omega
          cases dn
          · rcases HS.out.ex with ⟨_, hOw, hBl, hNo⟩ | ⟨q, _⟩
            · have HSu := Lib.hid HS.out.below
              have HBl3 := Lib.hid hBl
              have hen : xs0.take n.length = xs0 := List.take_of_length_le (by have := HXn.out; omega)
              rw [hen] at hOw
              have HO0 : Hid (OutB w4.heap.size wr u14 n) := OutB.copy (A := 0) hOw HAr.out HSu.out HB4.out.size
              have HPl := Lib.hid (put_end (f := f) (t := t) (m := m) hNo)
              have HFu := HF4.out.below HBl3.out HF4.out.lt
              have f0 : wr.cell? ⟨bl + 1, 0, none⟩ = some (.int .i64 m.e) := HFu.cell 0
              have f1 : wr.cell? ⟨bl + 1, 1, none⟩ = some (.int .i64 f) := HFu.cell 1
              have f2 : wr.cell? ⟨bl + 1, 2, none⟩ = some (.int .i64 t) := HFu.cell 2
              have f3 : wr.cell? ⟨bl + 1, 3, none⟩ = some (.slice (some ⟨bl, 0, none⟩) 1 1) := HFu.cell 3
              have HLu := Lib.hid (HL4.out.below HBl3.out HL4.out.lt)
              have HLlt : Hid (bl < w4.heap.size) := HL4.out.lt
              have HLe : Hid (n.length + 1 ≤ 900000) := by have := HN1.out; rw [Hid]; omega
              have HAw : Hid (Below w.heap.size w (wr.alloc (.cells (RB4.enc ⟨m.e, f, t, some ⟨bl, 0, none⟩, 1, 1⟩).toArray 34))) := HSu.out.alloc HSu.out.size _
              have HA4 : Hid (Below w4.heap.size w4 (wr.alloc (.cells (RB4.enc ⟨m.e, f, t, some ⟨bl, 0, none⟩, 1, 1⟩).toArray 34))) := HBl3.out.alloc HBl3.out.size _
              clear hOw hBl hNo HS HFu hen
              go_wp2_with (at_builtin; refine OutB.append (b := ⟨m.e, f, t, [m]⟩) rfl _ _ rfl ⟨m.e, f, t, some ⟨bl, 0, none⟩, 1, 1⟩ (HO0.out.below ((Below.refl _ _).alloc (Nat.le_refl _) (.cells (RB4.enc ⟨m.e, f, t, some ⟨bl, 0, none⟩, 1, 1⟩).toArray 34))) rfl rfl (.inr ⟨by simp, wr.heap.size, 0, 1, rfl, by simp, RowKind.Row.new (R := RB4) wr _ 34⟩) ⟨rfl, rfl, rfl, rfl, Nat.le_refl _, one_msg (HLu.out.alloc _)⟩ (fun _ b o c d e q => by have h1 := (HO0.out.lt b q).1; have h2 := HLlt.out; simp only [Value.slice.injEq, Option.some.injEq, Addr.mk.injEq] at e; omega) HLe.out HA4.out.size ?_; intro v9 w9 hO9 hG9 hS9; have HO9 := Lib.hid hO9; have HB9 := Lib.hid (hG9.below HAw.out HB4.out.size HAw.out.size); clear hO9 hG9 hS9 f0 f1 f2 f3)
              go_returns
              exact ⟨_, by rw [HPf.out]; rfl, by rw [HPn.out, HPl.out]; exact HO9.out.is, HO9.out.cap, HB9.out⟩
            · cases q
          · rcases HS.out.ex with ⟨q, _⟩ | ⟨_, outN, hO, hle, hPl, hNb⟩
            · cases q
            · have HO0 := Lib.hid hO
              have HSu := Lib.hid HS.out.below
              rw [List.drop_length, List.append_nil] at hPl
              have HPl := Lib.hid hPl
              clear hO hPl hNb HS
              go_wp2
              go_returns
              exact ⟨_, by rw [HPf.out]; rfl, by rw [HPn.out, ← HPl.out]; exact HO0.out.is, HO0.out.cap, HSu.out⟩
end Go.Proofs.Ytdgnblkoohakeaa
