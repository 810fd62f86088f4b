/- the program's Put -/
import Derived.Test.YtdgnblkoohakeaaUza
import Derived.Test.YtdgnblkoohakeaaUs
import Derived.Deep.RegionHeldLaw
namespace Go.Proofs.Ytdgnblkoohakeaa
open Go.RowKit
set_option linter.unusedVariables false
set_option linter.unusedSimpArgs false
attribute [local go_sem ↓] run_imin

theorem one_msgA {w : World} {bl : Nat} {m : MV} (h : Boxed w bl (mvRow m) 29) : RM.Is w (.slice (some ⟨bl, 0, none⟩) 1 1) [m] := by
  refine .inr ⟨by simp, bl, 0, 1, rfl, h.lt, fun j hj i u hu => ?_⟩
  have hj0 : j = 0 := by simpa using hj
  subst hj0
  have e : (⟨bl, 0 + 0 * RM.k + i, none⟩ : Addr) = ⟨bl, i, none⟩ := by simp
  rw [e, h.cell i]
  rw [← hu]
  show (mvRow m)[i]? = (MV.enc m)[i]?
  simp [mvRow, MV.enc]
theorem AnsB.of {B : Nat} {w w' : World} {v u : Value} {n n' : List BV} {ps : List (BW × BV)} (h : DeepB B w' u ps) (e : ps.map Prod.snd = n') (hb : Below w.heap.size w w') (hB : w.heap.size ≤ B) : AnsB n v n' w w' u :=
  ⟨by rw [← e]; exact h.is, h.cap, hb, fun G hG _ => by rw [← e]; exact h.off fun b q => Nat.lt_of_lt_of_le (hG b q) hB⟩
theorem putN_no {n : List BV} {f t room : Int} {m : MV} (h : putOk n f t room m = false) : putN n f t room m = n := by unfold putN; rw [if_neg (by rw [h]; decide)]
theorem putN_yes {n : List BV} {f t room : Int} {m : MV} (h : putOk n f t room m = true) : putN n f t room m = putL n f t m := by unfold putN; rw [if_pos h]
set_option maxRecDepth 100000 in
set_option maxHeartbeats 16000000 in
theorem pput_any (n : List BV) (v : Value) (f t room : Int) (m : MV) (w : World) (hs : SmallN n) (h : IsBs w v n) : Calls Try.prog 8 #[v, .int .i64 f, .int .i64 t, .int .i64 room, MV.val m] w (fun e w' => ∃ u, e = .returned (.tuple #[u, .bool (putOk n f t room m)]) ∧ AnsB n v (putN n f t room m) w w' u) := by
  have HCo := Lib.hid (fun W (hW : Below w.heap.size w W) => pcopied_any n v W hs (h.below hW))
  have hn1 : n.length ≤ 1000 := hs.1
  have HRt := Lib.hid (fun W (hW : Below w.heap.size w W) => pright_any n v W (by omega) (h.below hW))
  have HFi := Lib.hid (fun W (hW : Below w.heap.size w W) hg => pfind_any n v m.e f t w W (by omega) hg h hW)
  have HL5 : Hid (∀ b ∈ n, b.l.length ≤ 5000) := hs.2
  clear hs h
  go_enter Try.func8, Try.ntmps8
  go_upto_region 1 with (fail)
  refine gen_world (fun W3 => Below w.heap.size w W3 ∧ Boxed W3 w.heap.size (mvRow m) 29) ⟨by first | exact (Below.refl _ _).alloc (Nat.le_refl _) _ | go_grown, by first | exact heap_alloc_new _ _ | skip⟩ ?_
  rintro w1 ⟨hb1, hx1⟩
  have HB1 := Lib.hid hb1
  have HX1 := Lib.hid hx1
  clear hb1 hx1
  go_wp2_with fail
  refine (HCo.out _ HB1.out).mono ?_
  rintro e w2 ⟨u, ps, rfl, hps, hD, hb2⟩
  have HD := Lib.hid hD
  have HPs := Lib.hid hps
  have HZ1 : Hid (w.heap.size < w1.heap.size) := HX1.out.lt
  have HB2 := Lib.hid (bcall HB1.out hb2 HB1.out.size)
  have HX2 := Lib.hid (HX1.out.below hb2 HX1.out.lt)
  have HBl2 : Hid (w1.heap.size ≤ w2.heap.size) := hb2.size
  generalize w1.heap.size = B at *
  have c0 : w2.cell? ⟨w.heap.size, 0, none⟩ = some (.int .i64 m.e) := HX2.out.cell 0
  clear hD hps hb2 HCo HB1 HX1
  by_cases h1 : m.e < 0
  · have d1 : decide (m.e < 0) = true := decide_eq_true h1
    have HP : Hid (putOk n f t room m = false) := decide_eq_false fun q => by have := q.2.1.2.2; omega
    clear h1
    go_wp2
    go_returns
    exact ⟨u, by rw [HP.out]; rfl, AnsB.of HD.out (by rw [HPs.out, putN_no HP.out]) HB2.out (Nat.le_of_lt HZ1.out)⟩
  · have d1 : decide (m.e < 0) = false := decide_eq_false h1
    by_cases h2 : f < 0
    · have d2 : decide (f < 0) = true := decide_eq_true h2
      have HP : Hid (putOk n f t room m = false) := decide_eq_false fun q => by have := q.2.1.1; omega
      clear h1 h2
      go_wp2
      go_returns
      exact ⟨u, by rw [HP.out]; rfl, AnsB.of HD.out (by rw [HPs.out, putN_no HP.out]) HB2.out (Nat.le_of_lt HZ1.out)⟩
    · have d2 : decide (f < 0) = false := decide_eq_false h2
      by_cases h3 : t < 0
      · have d3 : decide (t < 0) = true := decide_eq_true h3
        have HP : Hid (putOk n f t room m = false) := decide_eq_false fun q => by have := q.2.1.2.1; omega
        clear h1 h2 h3
        go_wp2
        go_returns
        exact ⟨u, by rw [HP.out]; rfl, AnsB.of HD.out (by rw [HPs.out, putN_no HP.out]) HB2.out (Nat.le_of_lt HZ1.out)⟩
      · have d3 : decide (t < 0) = false := decide_eq_false h3
        go_wp2_with fail
        refine (HRt.out _ HB2.out).mono ?_
        rintro e w3 ⟨rfl, hb3⟩
        have HD3 := Lib.hid (HD.out.below hb3)
        have HB3 := Lib.hid (bcall HB2.out hb3 HB2.out.size)
        have HX3 := Lib.hid (HX2.out.below hb3 HX2.out.lt)
        have HBl3 : Hid (B ≤ w3.heap.size) := Nat.le_trans HBl2.out hb3.size
        clear c0 hb3 HD HB2 HX2 HRt
        cases hr : rightN n
        · have HP : Hid (putOk n f t room m = false) := decide_eq_false fun q => by rw [hr] at q; cases q.1
          clear hr h1 h2 h3
          go_wp2
          go_returns
          exact ⟨u, by rw [HP.out]; rfl, AnsB.of HD3.out (by rw [HPs.out, putN_no HP.out]) HB3.out (Nat.le_of_lt HZ1.out)⟩
        · have HG : Hid (GoodN n) := (rightN_iff n).1 hr
          have hlen : lenN n m.e f t = (listL n m.e f t).length := by unfold lenN; rw [if_pos hr, lenL_is]
          have HPo : Hid (putOk n f t room m = decide (((listL n m.e f t).length : Int) < room ∧ (listL n m.e f t).length < 4096)) := by
            rw [Hid, Bool.eq_iff_iff]
            unfold putOk
            rw [decide_eq_true_eq, decide_eq_true_eq, hlen]
            exact ⟨fun q => q.2.2, fun q => ⟨hr, ⟨by omega, by omega, by omega⟩, q⟩⟩
          have c0 : w3.cell? ⟨w.heap.size, 0, none⟩ = some (.int .i64 m.e) := HX3.out.cell 0
          clear h1 h2 h3 hr hlen d1 d2 d3
          go_wp2_with fail
          refine (HFi.out _ HB3.out HG.out).mono ?_
          rintro e w4 ⟨k, th, p, c, rfl, hpos, hli, hlc, hb4⟩
          have HD4 := Lib.hid (HD3.out.below hb4)
          have HB4 := Lib.hid (bcall HB3.out hb4 HB3.out.size)
          have HX4 := Lib.hid (HX3.out.below hb4 HX3.out.lt)
          have HBl : Hid (B ≤ w4.heap.size) := Nat.le_trans HBl3.out hb4.size
          have HPos := Lib.hid hpos
          have HLi := Lib.hid (hpos.list HG.out)
          clear c0 hpos hli hlc hb4 HD3 HB3 HX3 HFi
          generalize hL : (listL n m.e f t).length = L at *
          have HL := Lib.hid hL
          clear hL
          have HBz4 : Hid (B ≤ w4.heap.size) := HBl.out
          by_cases h5 : imin room 4096 ≤ (L : Int)
          · have d5 : decide (imin room 4096 ≤ (L : Int)) = true := decide_eq_true h5
            have HP : Hid (putOk n f t room m = false) := by
              rw [Hid, HPo.out]
              refine decide_eq_false fun q => ?_
              unfold imin at h5
              split at h5 <;> omega
            clear h5
            go_wp2
            go_returns
            exact ⟨u, by rw [HP.out]; rfl, AnsB.of HD4.out (by rw [HPs.out, putN_no HP.out]) HB4.out (Nat.le_of_lt HZ1.out)⟩
          · have d5 : decide (imin room 4096 ≤ (L : Int)) = false := decide_eq_false h5
            have HP : Hid (putOk n f t room m = true) := by
              rw [Hid, HPo.out]
              refine decide_eq_true ?_
              unfold imin at h5
              split at h5 <;> omega
            clear h5 HPo
            cases th
            · have hL0 : L = 0 := by rw [← HL.out, HLi.out]; rfl
              subst hL0
              have d6 : decide (imin room 4096 ≤ (0 : Int)) = false := d5
              have hkn : k ≤ ps.length := by have := HPos.out.le; have e := congrArg List.length HPs.out; rw [List.length_map] at e; omega
              obtain ⟨A, C, hps, hA⟩ := split_le hkn
              subst hps hA
              have hlen : ((A ++ C).map Prod.fst).length ≤ 1000 := by have e := congrArg List.length HPs.out; rw [List.length_map] at e ⊢; omega
              have hzB : B ≤ w4.heap.size := HBz4.out
              have HIns := Lib.hid (pins_any ((A ++ C).map Prod.fst) ⟨m.e, f, t, none, 0, 0⟩ u A.length B w4.heap.size (w4.alloc (.cells (bwRow ⟨m.e, f, t, none, 0, 0⟩) 34)) (HD4.out.own.alloc _) (by simp) (by omega) (by simp; omega) (Boxed.new _ _ _) (fun e => by have := (HD4.out.own.lt _ e).2; omega))
              have HFi : Hid (∀ x : BW, (A ++ (x, (⟨m.e, f, t, [] ++ [m]⟩ : BV)) :: C).map Prod.snd = putN n f t room m) := fun x => by
                have e1 : ((A ++ C).map Prod.snd).take A.length = A.map Prod.snd := by rw [List.map_append, List.take_left' (by simp)]
                have e2 : ((A ++ C).map Prod.snd).drop A.length = C.map Prod.snd := by rw [List.map_append, List.drop_left' (by simp)]
                rw [putN_yes HP.out, HPos.out.put_fresh, ← HPs.out, e1, e2, List.map_append]
                rfl
              have c0 : w4.cell? ⟨w.heap.size, 0, none⟩ = some (.int .i64 m.e) := HX4.out.cell 0
              have HWa : Hid (Below w4.heap.size w4 (w4.alloc (.cells (bwRow ⟨m.e, f, t, none, 0, 0⟩) 34))) := (Below.refl _ _).alloc (Nat.le_refl _) _
              have HDa := Lib.hid (HD4.out.below HWa.out)
              have HXa := Lib.hid (HX4.out.below HWa.out HX4.out.lt)
              have HBa := Lib.hid (bcall HB4.out HWa.out HB4.out.size)
              clear HD4 HX4 HB4 HPs HPos HG HLi hkn hlen hzB
              go_wp2_with fail
              refine (HIns.out).mono ?_
              rintro e w6 ⟨u6, rfl, hO6, hG6⟩
              have hne6 : ∃ g nn cap, u6 = .slice (some ⟨g, 0, none⟩) nn cap := by
                obtain ⟨h1, ⟨e, h2⟩ | ⟨g, cap, cur, e, _⟩⟩ := hO6
                · simp at h2
                · exact ⟨g, _, cap, e⟩
              obtain ⟨g, nn, cap, rfl⟩ := hne6
              have hDq := HDa.out.put (x := ⟨m.e, f, t, none, 0, 0⟩) (b := ⟨m.e, f, t, []⟩) ⟨rfl, rfl, rfl⟩ ⟨rfl, rfl, rfl⟩ rfl hO6 hG6
              have hob : ∀ b, u.ownBlock = some b → B ≤ b := fun b hb => (HDa.out.own.lt b hb).1
              have HXq : Hid (Boxed w6 w.heap.size (mvRow m) 29) := (hG6.block _ HXa.out.lt fun e => by have := hob _ e.symm; have := HZ1.out; omega).trans HXa.out
              have HBq : Hid (Below w.heap.size w w6) := ⟨hG6.os.trans HBa.out.os, hG6.tape.trans HBa.out.tape, hG6.output.trans HBa.out.output, Nat.le_trans HBa.out.size hG6.size, fun b hb => (hG6.block b (by have := HBa.out.size; omega) fun e => by have := hob _ e.symm; have := HZ1.out; omega).trans (HBa.out.block b hb)⟩
              have HBz : Hid (B ≤ w6.heap.size) := by
                have h1 := HBz4.out
                have h2 := hG6.size
                simp at h2
                rw [Hid]; omega
              obtain ⟨pp, hpp⟩ : ∃ pp : BW × BV, pp = (⟨m.e, f, t, none, 0, 0⟩, ⟨m.e, f, t, []⟩) := ⟨_, rfl⟩
              rw [← hpp] at hDq
              have HDq := Lib.hid hDq
              have HFi : Hid (∀ x : BW, (A ++ (x, (⟨pp.2.e, pp.2.f, pp.2.t, pp.2.l ++ [m]⟩ : BV)) :: C).map Prod.snd = putN n f t room m) := by rw [hpp]; exact HFi.out
              have HLe : Hid ((pp.2.l.length + [m].length) * RM.bytes ≤ 140737488355328) := by rw [Hid, show RM.bytes = 80 from rfl, List.length_singleton, hpp]; show (0 + 1) * 80 ≤ _; omega
              clear hDq hpp hO6 hG6 hob HDa HXa HBa HWa HIns c0
              have HKeep : Hid (∀ W, Below w6.heap.size w6 W → (W.cell? ⟨w.heap.size, 0, none⟩ = some (.int .i64 m.e) ∧ W.cell? ⟨w.heap.size, 1, none⟩ = some (.int .i64 m.d) ∧ W.cell? ⟨w.heap.size, 2, none⟩ = some (.int .i64 m.c0) ∧ W.cell? ⟨w.heap.size, 3, none⟩ = some (.int .i64 m.c1) ∧ W.cell? ⟨w.heap.size, 4, none⟩ = some (.int .i64 m.c2) ∧ W.cell? ⟨w.heap.size, 5, none⟩ = some (.int .i64 m.c3) ∧ W.cell? ⟨w.heap.size, 6, none⟩ = some (.int .i64 m.k) ∧ W.cell? ⟨w.heap.size, 7, none⟩ = some (.int .i64 m.v) ∧ W.cell? ⟨w.heap.size, 8, none⟩ = some (.int .i64 m.n) ∧ W.cell? ⟨w.heap.size, 9, none⟩ = some (.int .i64 m.c))) := fun W hW => by
                have X := HXq.out.below hW HXq.out.lt
                exact ⟨X.cell 0, X.cell 1, X.cell 2, X.cell 3, X.cell 4, X.cell 5, X.cell 6, X.cell 7, X.cell 8, X.cell 9⟩
              have HKl : Hid (∀ W, Below w6.heap.size w6 W → W.cell? ⟨g, A.length * 4 + 3, none⟩ = some (.slice pp.1.p pp.1.n pp.1.c)) := fun W hW => by
                have q := mapfst_at (A := A) (C := C) (p := pp)
                have c := (own_cell (HDq.out.own.below hW) q.2).1
                rwa [q.1] at c
              obtain ⟨s1, s2, s3, s4, s5, s6, s7, s8, s9, s10⟩ := HKeep.out w6 (Below.refl _ _)
              have HWA : Hid (Below w6.heap.size w6 (w6.drew.alloc (.cells (mvRow m) 29))) := (Below.refl _ _).drew.alloc (Nat.le_refl _) _
              have HOl : Hid (RM.Own B (w6.drew.alloc (.cells (mvRow m) 29)) (.slice pp.1.p pp.1.n pp.1.c) pp.2.l) := (HDq.out.box pp (by simp)).l.below HWA.out
              have HOm : Hid (RM.Is (w6.drew.alloc (.cells (mvRow m) 29)) (.slice (some ⟨w6.heap.size, 0, none⟩) 1 1) [m]) := one_msgA (Boxed.new w6.drew (mvRow m) 29)
              have HBs : Hid (B ≤ (w6.drew.alloc (.cells (mvRow m) 29)).heap.size) := Nat.le_trans HBz.out HWA.out.size
              have HTurn : Hid (∀ (v9 : Value) (w9 : World), RM.Own B w9 v9 (pp.2.l ++ [m]) → (w6.drew.alloc (.cells (mvRow m) 29)).grownBy w9 (Value.slice pp.1.p pp.1.n pp.1.c).ownBlock → StaysOrNew (w6.drew.alloc (.cells (mvRow m) 29)) (.slice pp.1.p pp.1.n pp.1.c) v9 → ∃ q9 c9, v9 = .slice q9 (pp.2.l.length + 1) c9 ∧ (w9.cell? ⟨w.heap.size, 0, none⟩ = some (.int .i64 m.e) ∧ w9.cell? ⟨w.heap.size, 1, none⟩ = some (.int .i64 m.d) ∧ w9.cell? ⟨w.heap.size, 2, none⟩ = some (.int .i64 m.c0) ∧ w9.cell? ⟨w.heap.size, 3, none⟩ = some (.int .i64 m.c1) ∧ w9.cell? ⟨w.heap.size, 4, none⟩ = some (.int .i64 m.c2) ∧ w9.cell? ⟨w.heap.size, 5, none⟩ = some (.int .i64 m.c3) ∧ w9.cell? ⟨w.heap.size, 6, none⟩ = some (.int .i64 m.k) ∧ w9.cell? ⟨w.heap.size, 7, none⟩ = some (.int .i64 m.v) ∧ w9.cell? ⟨w.heap.size, 8, none⟩ = some (.int .i64 m.n) ∧ w9.cell? ⟨w.heap.size, 9, none⟩ = some (.int .i64 m.c)) ∧ ((w9.setCell ⟨g, A.length * 4 + 3, none⟩ (.slice q9 (pp.2.l.length + 1) c9)).cell? ⟨w.heap.size, 0, none⟩ = some (.int .i64 m.e) ∧ (w9.setCell ⟨g, A.length * 4 + 3, none⟩ (.slice q9 (pp.2.l.length + 1) c9)).cell? ⟨w.heap.size, 1, none⟩ = some (.int .i64 m.d) ∧ (w9.setCell ⟨g, A.length * 4 + 3, none⟩ (.slice q9 (pp.2.l.length + 1) c9)).cell? ⟨w.heap.size, 2, none⟩ = some (.int .i64 m.c0) ∧ (w9.setCell ⟨g, A.length * 4 + 3, none⟩ (.slice q9 (pp.2.l.length + 1) c9)).cell? ⟨w.heap.size, 3, none⟩ = some (.int .i64 m.c1) ∧ (w9.setCell ⟨g, A.length * 4 + 3, none⟩ (.slice q9 (pp.2.l.length + 1) c9)).cell? ⟨w.heap.size, 4, none⟩ = some (.int .i64 m.c2) ∧ (w9.setCell ⟨g, A.length * 4 + 3, none⟩ (.slice q9 (pp.2.l.length + 1) c9)).cell? ⟨w.heap.size, 5, none⟩ = some (.int .i64 m.c3) ∧ (w9.setCell ⟨g, A.length * 4 + 3, none⟩ (.slice q9 (pp.2.l.length + 1) c9)).cell? ⟨w.heap.size, 6, none⟩ = some (.int .i64 m.k) ∧ (w9.setCell ⟨g, A.length * 4 + 3, none⟩ (.slice q9 (pp.2.l.length + 1) c9)).cell? ⟨w.heap.size, 7, none⟩ = some (.int .i64 m.v) ∧ (w9.setCell ⟨g, A.length * 4 + 3, none⟩ (.slice q9 (pp.2.l.length + 1) c9)).cell? ⟨w.heap.size, 8, none⟩ = some (.int .i64 m.n) ∧ (w9.setCell ⟨g, A.length * 4 + 3, none⟩ (.slice q9 (pp.2.l.length + 1) c9)).cell? ⟨w.heap.size, 9, none⟩ = some (.int .i64 m.c)) ∧ w9.cell? ⟨g, A.length * 4 + 3, none⟩ = some (.slice pp.1.p pp.1.n pp.1.c) ∧ w9.frozen? ⟨g, A.length * 4 + 3, none⟩ = false ∧ DeepB B (w9.setCell ⟨g, A.length * 4 + 3, none⟩ (.slice q9 (pp.2.l.length + 1) c9)) (.slice (some ⟨g, 0, none⟩) nn cap) (A ++ ((⟨pp.1.e, pp.1.f, pp.1.t, q9, pp.2.l.length + 1, c9⟩ : BW), (⟨pp.2.e, pp.2.f, pp.2.t, pp.2.l ++ [m]⟩ : BV)) :: C) ∧ Below w.heap.size w (w9.setCell ⟨g, A.length * 4 + 3, none⟩ (.slice q9 (pp.2.l.length + 1) c9))) := fun v9 w9 hO9 hG9 hS9 => by
                obtain ⟨q9, c9, rfl⟩ := hO9.is.slice
                rw [List.length_append, List.length_singleton] at hO9 hS9 ⊢
                have hG : w6.grownBy w9 (blkB pp.1) := grown_tr (grown_of HWA.out _) hG9
                have hp := HDq.out.box pp (by simp)
                have hOw := own_other' HDq.out.own hp.l hG
                have q := mapfst_at (A := A) (C := C) (p := pp)
                have c := own_cell hOw q.2
                rw [q.1] at c
                have X : Boxed w9 w.heap.size (mvRow m) 29 := (hG.block _ HXq.out.lt fun e => by have h1 := (hp.l.lt w.heap.size e.symm).1; have h2 := HZ1.out; omega).trans HXq.out
                have T := HDq.out.turn hO9 (by rw [List.length_append, List.length_singleton]) hG (hS9.elim .inl fun s => .inr fun b hb => Nat.le_trans HWA.out.size (s b hb))
                have hne : w.heap.size ≠ g := fun e => by have h1 := (HDq.out.own.lt g rfl).1; have h2 := HZ1.out; omega
                have X2 : Boxed (w9.setCell ⟨g, A.length * 4 + 3, none⟩ (.slice q9 (pp.2.l.length + 1) c9)) w.heap.size (mvRow m) 29 := (T.2.block _ X.lt fun e => hne (Option.some.inj e)).trans X
                refine ⟨q9, c9, rfl, ⟨X.cell 0, X.cell 1, X.cell 2, X.cell 3, X.cell 4, X.cell 5, X.cell 6, X.cell 7, X.cell 8, X.cell 9⟩, ⟨X2.cell 0, X2.cell 1, X2.cell 2, X2.cell 3, X2.cell 4, X2.cell 5, X2.cell 6, X2.cell 7, X2.cell 8, X2.cell 9⟩, c.1, c.2, T.1, ?_⟩
                have g1 := hG.size
                have g2 := T.2.size
                have hgB := (HDq.out.own.lt g rfl).1
                have hz := HZ1.out
                exact ⟨T.2.os.trans (hG.os.trans HBq.out.os), T.2.tape.trans (hG.tape.trans HBq.out.tape), T.2.output.trans (hG.output.trans HBq.out.output), Nat.le_trans HBq.out.size (Nat.le_trans g1 g2), fun b hb => (T.2.block b (by have := HBq.out.size; omega) (fun e => by have := Option.some.inj e; omega)).trans ((hG.block b (by have := HBq.out.size; omega) (fun e => by have h1 := (hp.l.lt b e.symm).1; omega)).trans (HBq.out.block b hb))⟩
              have kz : (A.length : Int) < (nn : Int) := by
                have q := mapfst_at (A := A) (C := C) (p := pp)
                obtain ⟨_, _, hn, _⟩ := HDq.out.own.row
                have := q.2
                omega
              have l0 := HKl.out w6 (Below.refl _ _)
              have l1 := HKl.out w6.drew (Below.refl _ _).drew
              have l2 : (w6.alloc (.cells #[.int .i64 m.e, .int .i64 m.d, .int .i64 m.c0, .int .i64 m.c1, .int .i64 m.c2, .int .i64 m.c3, .int .i64 m.k, .int .i64 m.v, .int .i64 m.n, .int .i64 m.c] 29)).cell? ⟨g, A.length * 4 + 3, none⟩ = some (.slice pp.1.p pp.1.n pp.1.c) := HKl.out _ ((Below.refl _ _).alloc (Nat.le_refl _) _)
              clear HXq HDq HBq HKl
              go_upto_region 9 with (fail)
              go_region_law (first | (refine RowKind.Own.appendAnyRL (R := RM) (xs := pp.2.l) (ys := [m]) (by decide) rfl _ _ rfl HOl.out rfl rfl HOm.out HLe.out HBs.out ?_; intro v9 w9 hO9 hG9 hS9; obtain ⟨q9, c9, rfl, hS, hS2, hl9, hf, hT, hB⟩ := HTurn.out v9 w9 hO9 hG9 hS9; have HT := Lib.hid hT; have HB := Lib.hid hB; clear hO9 hG9 hS9 hT hB hS hS2))
              all_goals
                try simp only [List.getElem_toArray, List.getElem_cons_succ, List.getElem_cons_zero, Act.put, List.setIfInBounds_toArray, List.set_cons_zero, List.set_cons_succ]
                go_wp2
                go_returns
                exact ⟨_, by rw [HP.out]; rfl, AnsB.of HT.out (HFi.out _) HB.out (Nat.le_of_lt HZ1.out)⟩
            · have hkn : k < ps.length := by have := HPos.out.hit.1; have e := congrArg List.length HPs.out; rw [List.length_map] at e; omega
              obtain ⟨A, pp, C, hps, hA⟩ := split_at hkn
              subst hps hA
              have hpb : n[A.length]! = pp.2 := by rw [← HPs.out]; exact mapsnd_at.1
              have hLp : L = pp.2.l.length := by rw [← HL.out, HLi.out, if_pos rfl, hpb]
              have hok := (okB_iff _).1 (HG.out.1 pp.2 (by rw [← HPs.out]; simp))
              have hLne : ((L : Int) == 0) = false := by simp; omega
              have hcase : ∃ g nn cap, u = .slice (some ⟨g, 0, none⟩) nn cap := by
                obtain ⟨h1, ⟨e, h2⟩ | ⟨g, cap, cur, e, _⟩⟩ := HD4.out.own
                · simp at h2
                · exact ⟨g, _, cap, e⟩
              obtain ⟨g, nn, cap, rfl⟩ := hcase
              have HLe : Hid ((pp.2.l.length + [m].length) * RM.bytes ≤ 140737488355328) := by rw [Hid, show RM.bytes = 80 from rfl, List.length_singleton]; omega
              have HDq := HD4
              have HXq := HX4
              have HBq := HB4
              have HBz : Hid (B ≤ w4.heap.size) := by have := HB4.out.size; exact Nat.le_trans (Nat.le_of_lt (HD4.out.own.lt g rfl).2 |> fun x => Nat.le_trans (HD4.out.own.lt g rfl).1 x) (Nat.le_refl _)
              have HFi : Hid (∀ x : BW, (A ++ (x, (⟨pp.2.e, pp.2.f, pp.2.t, pp.2.l ++ [m]⟩ : BV)) :: C).map Prod.snd = putN n f t room m) := fun x => by
                rw [putN_yes HP.out, HPos.out.put_old, hpb, ← HPs.out]
                have hi := (isB_iff _ _ _ _).1 HPos.out.hit.2
                rw [hpb] at hi
                rw [hi.1, hi.2.1, hi.2.2]
                exact (mapsnd_set rfl).symm
              clear HD4 HX4 HB4 hpb hLp hok HLi HPs HPos HG
              have HKeep : Hid (∀ W, Below w4.heap.size w4 W → (W.cell? ⟨w.heap.size, 0, none⟩ = some (.int .i64 m.e) ∧ W.cell? ⟨w.heap.size, 1, none⟩ = some (.int .i64 m.d) ∧ W.cell? ⟨w.heap.size, 2, none⟩ = some (.int .i64 m.c0) ∧ W.cell? ⟨w.heap.size, 3, none⟩ = some (.int .i64 m.c1) ∧ W.cell? ⟨w.heap.size, 4, none⟩ = some (.int .i64 m.c2) ∧ W.cell? ⟨w.heap.size, 5, none⟩ = some (.int .i64 m.c3) ∧ W.cell? ⟨w.heap.size, 6, none⟩ = some (.int .i64 m.k) ∧ W.cell? ⟨w.heap.size, 7, none⟩ = some (.int .i64 m.v) ∧ W.cell? ⟨w.heap.size, 8, none⟩ = some (.int .i64 m.n) ∧ W.cell? ⟨w.heap.size, 9, none⟩ = some (.int .i64 m.c))) := fun W hW => by
                have X := HXq.out.below hW HXq.out.lt
                exact ⟨X.cell 0, X.cell 1, X.cell 2, X.cell 3, X.cell 4, X.cell 5, X.cell 6, X.cell 7, X.cell 8, X.cell 9⟩
              have HKl : Hid (∀ W, Below w4.heap.size w4 W → W.cell? ⟨g, A.length * 4 + 3, none⟩ = some (.slice pp.1.p pp.1.n pp.1.c)) := fun W hW => by
                have q := mapfst_at (A := A) (C := C) (p := pp)
                have c := (own_cell (HDq.out.own.below hW) q.2).1
                rwa [q.1] at c
              obtain ⟨s1, s2, s3, s4, s5, s6, s7, s8, s9, s10⟩ := HKeep.out w4 (Below.refl _ _)
              have HWA : Hid (Below w4.heap.size w4 (w4.drew.alloc (.cells (mvRow m) 29))) := (Below.refl _ _).drew.alloc (Nat.le_refl _) _
              have HOl : Hid (RM.Own B (w4.drew.alloc (.cells (mvRow m) 29)) (.slice pp.1.p pp.1.n pp.1.c) pp.2.l) := (HDq.out.box pp (by simp)).l.below HWA.out
              have HOm : Hid (RM.Is (w4.drew.alloc (.cells (mvRow m) 29)) (.slice (some ⟨w4.heap.size, 0, none⟩) 1 1) [m]) := one_msgA (Boxed.new w4.drew (mvRow m) 29)
              have HBs : Hid (B ≤ (w4.drew.alloc (.cells (mvRow m) 29)).heap.size) := Nat.le_trans HBz.out HWA.out.size
              have HTurn : Hid (∀ (v9 : Value) (w9 : World), RM.Own B w9 v9 (pp.2.l ++ [m]) → (w4.drew.alloc (.cells (mvRow m) 29)).grownBy w9 (Value.slice pp.1.p pp.1.n pp.1.c).ownBlock → StaysOrNew (w4.drew.alloc (.cells (mvRow m) 29)) (.slice pp.1.p pp.1.n pp.1.c) v9 → ∃ q9 c9, v9 = .slice q9 (pp.2.l.length + 1) c9 ∧ (w9.cell? ⟨w.heap.size, 0, none⟩ = some (.int .i64 m.e) ∧ w9.cell? ⟨w.heap.size, 1, none⟩ = some (.int .i64 m.d) ∧ w9.cell? ⟨w.heap.size, 2, none⟩ = some (.int .i64 m.c0) ∧ w9.cell? ⟨w.heap.size, 3, none⟩ = some (.int .i64 m.c1) ∧ w9.cell? ⟨w.heap.size, 4, none⟩ = some (.int .i64 m.c2) ∧ w9.cell? ⟨w.heap.size, 5, none⟩ = some (.int .i64 m.c3) ∧ w9.cell? ⟨w.heap.size, 6, none⟩ = some (.int .i64 m.k) ∧ w9.cell? ⟨w.heap.size, 7, none⟩ = some (.int .i64 m.v) ∧ w9.cell? ⟨w.heap.size, 8, none⟩ = some (.int .i64 m.n) ∧ w9.cell? ⟨w.heap.size, 9, none⟩ = some (.int .i64 m.c)) ∧ ((w9.setCell ⟨g, A.length * 4 + 3, none⟩ (.slice q9 (pp.2.l.length + 1) c9)).cell? ⟨w.heap.size, 0, none⟩ = some (.int .i64 m.e) ∧ (w9.setCell ⟨g, A.length * 4 + 3, none⟩ (.slice q9 (pp.2.l.length + 1) c9)).cell? ⟨w.heap.size, 1, none⟩ = some (.int .i64 m.d) ∧ (w9.setCell ⟨g, A.length * 4 + 3, none⟩ (.slice q9 (pp.2.l.length + 1) c9)).cell? ⟨w.heap.size, 2, none⟩ = some (.int .i64 m.c0) ∧ (w9.setCell ⟨g, A.length * 4 + 3, none⟩ (.slice q9 (pp.2.l.length + 1) c9)).cell? ⟨w.heap.size, 3, none⟩ = some (.int .i64 m.c1) ∧ (w9.setCell ⟨g, A.length * 4 + 3, none⟩ (.slice q9 (pp.2.l.length + 1) c9)).cell? ⟨w.heap.size, 4, none⟩ = some (.int .i64 m.c2) ∧ (w9.setCell ⟨g, A.length * 4 + 3, none⟩ (.slice q9 (pp.2.l.length + 1) c9)).cell? ⟨w.heap.size, 5, none⟩ = some (.int .i64 m.c3) ∧ (w9.setCell ⟨g, A.length * 4 + 3, none⟩ (.slice q9 (pp.2.l.length + 1) c9)).cell? ⟨w.heap.size, 6, none⟩ = some (.int .i64 m.k) ∧ (w9.setCell ⟨g, A.length * 4 + 3, none⟩ (.slice q9 (pp.2.l.length + 1) c9)).cell? ⟨w.heap.size, 7, none⟩ = some (.int .i64 m.v) ∧ (w9.setCell ⟨g, A.length * 4 + 3, none⟩ (.slice q9 (pp.2.l.length + 1) c9)).cell? ⟨w.heap.size, 8, none⟩ = some (.int .i64 m.n) ∧ (w9.setCell ⟨g, A.length * 4 + 3, none⟩ (.slice q9 (pp.2.l.length + 1) c9)).cell? ⟨w.heap.size, 9, none⟩ = some (.int .i64 m.c)) ∧ w9.cell? ⟨g, A.length * 4 + 3, none⟩ = some (.slice pp.1.p pp.1.n pp.1.c) ∧ w9.frozen? ⟨g, A.length * 4 + 3, none⟩ = false ∧ DeepB B (w9.setCell ⟨g, A.length * 4 + 3, none⟩ (.slice q9 (pp.2.l.length + 1) c9)) (.slice (some ⟨g, 0, none⟩) nn cap) (A ++ ((⟨pp.1.e, pp.1.f, pp.1.t, q9, pp.2.l.length + 1, c9⟩ : BW), (⟨pp.2.e, pp.2.f, pp.2.t, pp.2.l ++ [m]⟩ : BV)) :: C) ∧ Below w.heap.size w (w9.setCell ⟨g, A.length * 4 + 3, none⟩ (.slice q9 (pp.2.l.length + 1) c9))) := fun v9 w9 hO9 hG9 hS9 => by
                obtain ⟨q9, c9, rfl⟩ := hO9.is.slice
                rw [List.length_append, List.length_singleton] at hO9 hS9 ⊢
                have hG : w4.grownBy w9 (blkB pp.1) := grown_tr (grown_of HWA.out _) hG9
                have hp := HDq.out.box pp (by simp)
                have hOw := own_other' HDq.out.own hp.l hG
                have q := mapfst_at (A := A) (C := C) (p := pp)
                have c := own_cell hOw q.2
                rw [q.1] at c
                have X : Boxed w9 w.heap.size (mvRow m) 29 := (hG.block _ HXq.out.lt fun e => by have h1 := (hp.l.lt w.heap.size e.symm).1; have h2 := HZ1.out; omega).trans HXq.out
                have T := HDq.out.turn hO9 (by rw [List.length_append, List.length_singleton]) hG (hS9.elim .inl fun s => .inr fun b hb => Nat.le_trans HWA.out.size (s b hb))
                have hne : w.heap.size ≠ g := fun e => by have h1 := (HDq.out.own.lt g rfl).1; have h2 := HZ1.out; omega
                have X2 : Boxed (w9.setCell ⟨g, A.length * 4 + 3, none⟩ (.slice q9 (pp.2.l.length + 1) c9)) w.heap.size (mvRow m) 29 := (T.2.block _ X.lt fun e => hne (Option.some.inj e)).trans X
                refine ⟨q9, c9, rfl, ⟨X.cell 0, X.cell 1, X.cell 2, X.cell 3, X.cell 4, X.cell 5, X.cell 6, X.cell 7, X.cell 8, X.cell 9⟩, ⟨X2.cell 0, X2.cell 1, X2.cell 2, X2.cell 3, X2.cell 4, X2.cell 5, X2.cell 6, X2.cell 7, X2.cell 8, X2.cell 9⟩, c.1, c.2, T.1, ?_⟩
                have g1 := hG.size
                have g2 := T.2.size
                have hgB := (HDq.out.own.lt g rfl).1
                have hz := HZ1.out
                exact ⟨T.2.os.trans (hG.os.trans HBq.out.os), T.2.tape.trans (hG.tape.trans HBq.out.tape), T.2.output.trans (hG.output.trans HBq.out.output), Nat.le_trans HBq.out.size (Nat.le_trans g1 g2), fun b hb => (T.2.block b (by have := HBq.out.size; omega) (fun e => by have := Option.some.inj e; omega)).trans ((hG.block b (by have := HBq.out.size; omega) (fun e => by have h1 := (hp.l.lt b e.symm).1; omega)).trans (HBq.out.block b hb))⟩
              have kz : (A.length : Int) < (nn : Int) := by
                have q := mapfst_at (A := A) (C := C) (p := pp)
                obtain ⟨_, _, hn, _⟩ := HDq.out.own.row
                have := q.2
                omega
              have l0 := HKl.out w4 (Below.refl _ _)
              have l1 := HKl.out w4.drew (Below.refl _ _).drew
              have l2 : (w4.alloc (.cells #[.int .i64 m.e, .int .i64 m.d, .int .i64 m.c0, .int .i64 m.c1, .int .i64 m.c2, .int .i64 m.c3, .int .i64 m.k, .int .i64 m.v, .int .i64 m.n, .int .i64 m.c] 29)).cell? ⟨g, A.length * 4 + 3, none⟩ = some (.slice pp.1.p pp.1.n pp.1.c) := HKl.out _ ((Below.refl _ _).alloc (Nat.le_refl _) _)
              clear HXq HDq HBq HKl
              go_upto_region 9 with (fail)
              go_region_law (first | (refine RowKind.Own.appendAnyRL (R := RM) (xs := pp.2.l) (ys := [m]) (by decide) rfl _ _ rfl HOl.out rfl rfl HOm.out HLe.out HBs.out ?_; intro v9 w9 hO9 hG9 hS9; obtain ⟨q9, c9, rfl, hS, hS2, hl9, hf, hT, hB⟩ := HTurn.out v9 w9 hO9 hG9 hS9; have HT := Lib.hid hT; have HB := Lib.hid hB; clear hO9 hG9 hS9 hT hB hS hS2))
              all_goals
                try simp only [List.getElem_toArray, List.getElem_cons_succ, List.getElem_cons_zero, Act.put, List.setIfInBounds_toArray, List.set_cons_zero, List.set_cons_succ]
                go_wp2
                go_returns
                exact ⟨_, by rw [HP.out]; rfl, AnsB.of HT.out (HFi.out _) HB.out (Nat.le_of_lt HZ1.out)⟩
end Go.Proofs.Ytdgnblkoohakeaa
