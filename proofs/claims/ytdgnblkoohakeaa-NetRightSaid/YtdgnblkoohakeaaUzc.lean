/- the program's Take -/
import Derived.Test.YtdgnblkoohakeaaUzb
import Derived.Test.YtdgnblkoohakeaaBoxM
namespace Go.Proofs.Ytdgnblkoohakeaa
open Go.RowKit
set_option linter.unusedVariables false
set_option linter.unusedSimpArgs false

attribute [local go_sem ↓] storeM run_imin
attribute [local go_sem] rowAt_head one_int one_bool
theorem DeepB.keep {B : Nat} {W W' : World} {v : Value} {ps : List (BW × BV)} (h : DeepB B W v ps) (hk : ∀ k, B ≤ k → k < W.heap.size → W'.heap[k]? = W.heap[k]?) : DeepB B W' v ps :=
  ⟨h.own.keepK fun b hb => hk b (h.own.lt b hb).1 (h.own.lt b hb).2, fun p hp => by
    have q := h.box p hp
    exact ⟨q.e, q.f, q.t, q.n, q.l.keepK fun b hb => hk b (q.l.lt b hb).1 (q.l.lt b hb).2⟩, h.apart⟩
theorem Boxed.row {w : World} {b : Nat} {c : Array Value} {t : TypeId} (h : Boxed w b c t) : rowOf w b = some c := by
  unfold rowOf
  rw [h]
  simp
theorem below_setR {B b : Nat} {w0 w : World} {c : Array Value} (h : Below B w0 w) (hb : B ≤ b) : Below B w0 (setRow w b c) :=
  ⟨h.os, h.tape, h.output, by rw [size_setRow]; exact h.size, fun k hk => (heap_setRow w b c k (by omega)).trans (h.block k hk)⟩
abbrev mv0 : MV := ⟨0, 0, 0, 0, 0, 0, 0, 0, 0, 0⟩
theorem takeN_no {n : List BV} {e f t i : Int} (h : takeOk n e f t i = false) : takeN n e f t i = n ∧ takeM n e f t i = mv0 := by unfold takeN takeM; rw [if_neg (by rw [h]; decide), if_neg (by rw [h]; decide)]; exact ⟨rfl, rfl⟩
theorem takeN_yes {n : List BV} {e f t i : Int} (h : takeOk n e f t i = true) : takeN n e f t i = takeL n e f t i.toNat ∧ takeM n e f t i = (listL n e f t)[i.toNat]! := by unfold takeN takeM; rw [if_pos h, if_pos h]; exact ⟨rfl, rfl⟩
set_option maxRecDepth 100000 in
set_option maxHeartbeats 16000000 in
theorem ptake_any (n : List BV) (v : Value) (e f t i : Int) (w : World) (hs : SmallN n) (h : IsBs w v n) : Calls Try.prog 13 #[v, .int .i64 e, .int .i64 f, .int .i64 t, .int .i64 i] w (fun x w' => ∃ u, x = .returned (.tuple #[u, MV.val (takeM n e f t i), .bool (takeOk n e f t i)]) ∧ AnsB n v (takeN n e f t i) w w' u) := by
  have HCo := Lib.hid (fun W (hW : Below w.heap.size w W) => pcopied_any n v W hs (h.below hW))
  have hn1 : n.length ≤ 1000 := hs.1
  have HRt := Lib.hid (fun W (hW : Below w.heap.size w W) => pright_any n v W (by omega) (h.below hW))
  have HFi := Lib.hid (fun W (hW : Below w.heap.size w W) hg => pfind_any n v e f t w W (by omega) hg h hW)
  have HL5 : Hid (∀ b ∈ n, b.l.length ≤ 5000) := hs.2
  clear hs h
  go_enter Try.func13, Try.ntmps13
  go_upto_region 1 with (fail)
  refine gen_world (fun W3 => Below w.heap.size w W3 ∧ Boxed W3 w.heap.size (mvRow mv0) 29) ⟨by first | exact (Below.refl _ _).alloc (Nat.le_refl _) _ | go_grown, by first | exact heap_alloc_new _ _ | skip⟩ ?_
  rintro w1 ⟨hb1, hx1⟩
  have HB1 := Lib.hid hb1
  have HX1 := Lib.hid hx1
  clear hb1 hx1
  go_wp2_with fail
  refine (HCo.out _ HB1.out).mono ?_
  rintro x w2 ⟨u, ps, rfl, hps, hD, hb2⟩
  have HD := Lib.hid hD
  have HPs := Lib.hid hps
  have HZ1 : Hid (w.heap.size < w1.heap.size) := HX1.out.lt
  have HB2 := Lib.hid (bcall HB1.out hb2 HB1.out.size)
  have HX2 := Lib.hid (HX1.out.below hb2 HX1.out.lt)
  have HBl2 : Hid (w1.heap.size ≤ w2.heap.size) := hb2.size
  generalize w1.heap.size = B at *
  clear hD hps hb2 HCo HB1 HX1
  go_wp2_with fail
  refine (HRt.out _ HB2.out).mono ?_
  rintro x w3 ⟨rfl, hb3⟩
  have HD3 := Lib.hid (HD.out.below hb3)
  have HB3 := Lib.hid (bcall HB2.out hb3 HB2.out.size)
  have HX3 := Lib.hid (HX2.out.below hb3 HX2.out.lt)
  have HBl3 : Hid (B ≤ w3.heap.size) := Nat.le_trans HBl2.out hb3.size
  clear hb3 HD HB2 HX2 HRt
  cases hr : rightN n
  · have HP : Hid (takeOk n e f t i = false) := decide_eq_false fun q => by
      unfold lenN at q
      rw [if_neg (by rw [hr]; decide)] at q
      omega
    clear hr
    have N0 : rowOf w3 w.heap.size = some (mvRow mv0) := Boxed.row HX3.out
    clear HX3
    go_wp2_with fail
    refine gen_q (fun W' => rowOf W' w.heap.size = some (mvRow (mv0)) ∧ Below w.heap.size w W' ∧ DeepB B W' u ps) ⟨row_set_same N0, below_setR HB3.out (Nat.le_refl _), HD3.out.keep (fun k hk _ => heap_setRow _ _ _ k (by have := HZ1.out; omega))⟩ ?_
    rintro w9 ⟨N9, hb9, hd9⟩
    have q0 : w9.cell? ⟨w.heap.size, 0, none⟩ = some (.int .i64 0) := rowOf_cell N9 0
    have q1 : w9.cell? ⟨w.heap.size, 1, none⟩ = some (.int .i64 0) := rowOf_cell N9 1
    have q2 : w9.cell? ⟨w.heap.size, 2, none⟩ = some (.int .i64 0) := rowOf_cell N9 2
    have q3 : w9.cell? ⟨w.heap.size, 3, none⟩ = some (.int .i64 0) := rowOf_cell N9 3
    have q4 : w9.cell? ⟨w.heap.size, 4, none⟩ = some (.int .i64 0) := rowOf_cell N9 4
    have q5 : w9.cell? ⟨w.heap.size, 5, none⟩ = some (.int .i64 0) := rowOf_cell N9 5
    have q6 : w9.cell? ⟨w.heap.size, 6, none⟩ = some (.int .i64 0) := rowOf_cell N9 6
    have q7 : w9.cell? ⟨w.heap.size, 7, none⟩ = some (.int .i64 0) := rowOf_cell N9 7
    have q8 : w9.cell? ⟨w.heap.size, 8, none⟩ = some (.int .i64 0) := rowOf_cell N9 8
    have q9 : w9.cell? ⟨w.heap.size, 9, none⟩ = some (.int .i64 0) := rowOf_cell N9 9
    clear N9
    exact bodyPost_ret (v := .tuple #[u, .agg #[.int .i64 0, .int .i64 0, .int .i64 0, .int .i64 0, .int .i64 0, .int .i64 0, .int .i64 0, .int .i64 0, .int .i64 0, .int .i64 0], .bool false]) (by simp [results, Try.results13, go_sem, q0, q1, q2, q3, q4, q5, q6, q7, q8, q9]) rfl ⟨u, by rw [HP.out, (takeN_no HP.out).2], AnsB.of hd9 (by rw [HPs.out, (takeN_no HP.out).1]) hb9 (Nat.le_of_lt HZ1.out)⟩
  · have HG : Hid (GoodN n) := (rightN_iff n).1 hr
    have hlen : lenN n e f t = (listL n e f t).length := by unfold lenN; rw [if_pos hr, lenL_is]
    have HPo : Hid (takeOk n e f t i = decide (0 ≤ i ∧ i < ((listL n e f t).length : Int))) := by
      rw [Hid]; unfold takeOk; rw [hlen]
    clear hr hlen
    go_wp2_with fail
    refine (HFi.out _ HB3.out HG.out).mono ?_
    rintro x w4 ⟨k, th, p, c, rfl, hpos, hli, hlc, hb4⟩
    have HD4 := Lib.hid (HD3.out.below hb4)
    have HB4 := Lib.hid (bcall HB3.out hb4 HB3.out.size)
    have HX4 := Lib.hid (HX3.out.below hb4 HX3.out.lt)
    have HBl : Hid (B ≤ w4.heap.size) := Nat.le_trans HBl3.out hb4.size
    have HPos := Lib.hid hpos
    have HLi := Lib.hid (hpos.list HG.out)
    have HIs := Lib.hid hli
    have hTh := fun q => hpos.some HG.out q
    clear hpos hli hlc hb4 HD3 HB3 HX3 HFi
    generalize hlst : listL n e f t = lst at *
    have HLst := Lib.hid hlst
    clear hlst
    generalize hL : lst.length = L at *
    have HL := Lib.hid hL
    clear hL
    have N0 : rowOf w4 w.heap.size = some (mvRow mv0) := Boxed.row HX4.out
    by_cases h1 : i < 0
    · have d1 : decide (i < 0) = true := decide_eq_true h1
      have HP : Hid (takeOk n e f t i = false) := by rw [Hid, HPo.out]; exact decide_eq_false fun q => by omega
      clear h1 hTh
      go_wp2_with fail
      refine gen_q (fun W' => rowOf W' w.heap.size = some (mvRow (mv0)) ∧ Below w.heap.size w W' ∧ DeepB B W' u ps) ⟨row_set_same N0, below_setR HB4.out (Nat.le_refl _), HD4.out.keep (fun k hk _ => heap_setRow _ _ _ k (by have := HZ1.out; omega))⟩ ?_
      rintro w9 ⟨N9, hb9, hd9⟩
      have q0 : w9.cell? ⟨w.heap.size, 0, none⟩ = some (.int .i64 0) := rowOf_cell N9 0
      have q1 : w9.cell? ⟨w.heap.size, 1, none⟩ = some (.int .i64 0) := rowOf_cell N9 1
      have q2 : w9.cell? ⟨w.heap.size, 2, none⟩ = some (.int .i64 0) := rowOf_cell N9 2
      have q3 : w9.cell? ⟨w.heap.size, 3, none⟩ = some (.int .i64 0) := rowOf_cell N9 3
      have q4 : w9.cell? ⟨w.heap.size, 4, none⟩ = some (.int .i64 0) := rowOf_cell N9 4
      have q5 : w9.cell? ⟨w.heap.size, 5, none⟩ = some (.int .i64 0) := rowOf_cell N9 5
      have q6 : w9.cell? ⟨w.heap.size, 6, none⟩ = some (.int .i64 0) := rowOf_cell N9 6
      have q7 : w9.cell? ⟨w.heap.size, 7, none⟩ = some (.int .i64 0) := rowOf_cell N9 7
      have q8 : w9.cell? ⟨w.heap.size, 8, none⟩ = some (.int .i64 0) := rowOf_cell N9 8
      have q9 : w9.cell? ⟨w.heap.size, 9, none⟩ = some (.int .i64 0) := rowOf_cell N9 9
      clear N9
      exact bodyPost_ret (v := .tuple #[u, .agg #[.int .i64 0, .int .i64 0, .int .i64 0, .int .i64 0, .int .i64 0, .int .i64 0, .int .i64 0, .int .i64 0, .int .i64 0, .int .i64 0], .bool false]) (by simp [results, Try.results13, go_sem, q0, q1, q2, q3, q4, q5, q6, q7, q8, q9]) rfl ⟨u, by rw [HP.out, (takeN_no HP.out).2], AnsB.of hd9 (by rw [HPs.out, (takeN_no HP.out).1]) hb9 (Nat.le_of_lt HZ1.out)⟩
    · have d1 : decide (i < 0) = false := decide_eq_false h1
      by_cases h2 : (L : Int) ≤ i
      · have d2 : decide ((L : Int) ≤ i) = true := decide_eq_true h2
        have HP : Hid (takeOk n e f t i = false) := by rw [Hid, HPo.out]; exact decide_eq_false fun q => by omega
        clear h1 h2 hTh
        go_wp2_with fail
        refine gen_q (fun W' => rowOf W' w.heap.size = some (mvRow (mv0)) ∧ Below w.heap.size w W' ∧ DeepB B W' u ps) ⟨row_set_same N0, below_setR HB4.out (Nat.le_refl _), HD4.out.keep (fun k hk _ => heap_setRow _ _ _ k (by have := HZ1.out; omega))⟩ ?_
        rintro w9 ⟨N9, hb9, hd9⟩
        have q0 : w9.cell? ⟨w.heap.size, 0, none⟩ = some (.int .i64 0) := rowOf_cell N9 0
        have q1 : w9.cell? ⟨w.heap.size, 1, none⟩ = some (.int .i64 0) := rowOf_cell N9 1
        have q2 : w9.cell? ⟨w.heap.size, 2, none⟩ = some (.int .i64 0) := rowOf_cell N9 2
        have q3 : w9.cell? ⟨w.heap.size, 3, none⟩ = some (.int .i64 0) := rowOf_cell N9 3
        have q4 : w9.cell? ⟨w.heap.size, 4, none⟩ = some (.int .i64 0) := rowOf_cell N9 4
        have q5 : w9.cell? ⟨w.heap.size, 5, none⟩ = some (.int .i64 0) := rowOf_cell N9 5
        have q6 : w9.cell? ⟨w.heap.size, 6, none⟩ = some (.int .i64 0) := rowOf_cell N9 6
        have q7 : w9.cell? ⟨w.heap.size, 7, none⟩ = some (.int .i64 0) := rowOf_cell N9 7
        have q8 : w9.cell? ⟨w.heap.size, 8, none⟩ = some (.int .i64 0) := rowOf_cell N9 8
        have q9 : w9.cell? ⟨w.heap.size, 9, none⟩ = some (.int .i64 0) := rowOf_cell N9 9
        clear N9
        exact bodyPost_ret (v := .tuple #[u, .agg #[.int .i64 0, .int .i64 0, .int .i64 0, .int .i64 0, .int .i64 0, .int .i64 0, .int .i64 0, .int .i64 0, .int .i64 0, .int .i64 0], .bool false]) (by simp [results, Try.results13, go_sem, q0, q1, q2, q3, q4, q5, q6, q7, q8, q9]) rfl ⟨u, by rw [HP.out, (takeN_no HP.out).2], AnsB.of hd9 (by rw [HPs.out, (takeN_no HP.out).1]) hb9 (Nat.le_of_lt HZ1.out)⟩
      · have d2 : decide ((L : Int) ≤ i) = false := decide_eq_false h2
        have HP : Hid (takeOk n e f t i = true) := by rw [Hid, HPo.out]; exact decide_eq_true (by omega)
        obtain ⟨j, rfl⟩ : ∃ j : Nat, i = (j : Int) := ⟨i.toNat, by omega⟩
        have hjL : j < L := by omega
        have hth : th = true := hTh (by omega)
        subst hth
        have hkn : k < ps.length := by have := HPos.out.hit.1; have e := congrArg List.length HPs.out; rw [List.length_map] at e; omega
        obtain ⟨A, pp, C, hps, hA⟩ := split_at hkn
        subst hps hA
        have hpb : n[A.length]! = pp.2 := by rw [← HPs.out]; exact mapsnd_at.1
        have hlp : lst = pp.2.l := by rw [HLi.out, if_pos rfl, hpb]
        have hLp : L = pp.2.l.length := by rw [← HL.out, hlp]
        have hok := (okB_iff _).1 (HG.out.1 pp.2 (by rw [← HPs.out]; simp))
        have hcase : ∃ g cap, u = .slice (some ⟨g, 0, none⟩) ((A ++ pp :: C).map Prod.fst).length cap := by
          obtain ⟨h1, ⟨e, h2⟩ | ⟨g, cap, cur, e, _⟩⟩ := HD4.out.own
          · simp at h2
          · exact ⟨g, cap, e⟩
        obtain ⟨g, cap, rfl⟩ := hcase
        have hln : ((A ++ pp :: C).map Prod.fst).length ≤ 1000 := by have e := congrArg List.length HPs.out; rw [List.length_map] at e ⊢; omega
        have hM : takeM n e f t (j : Int) = lst[j]! := by rw [(takeN_yes HP.out).2, HLst.out]; rfl
        have HM := Lib.hid hM
        have HTk : Hid (takeN n e f t (j : Int) = if pp.2.l.length = 1 then n.eraseIdx A.length else n.set A.length ⟨pp.2.e, pp.2.f, pp.2.t, pp.2.l.eraseIdx j⟩) := by
          rw [Hid, (takeN_yes HP.out).1, take_at HPos.out.hit.1 HPos.out.not_lo HPos.out.hit.2, hpb]; rfl
        have HRd : Hid (∀ W, Below w.heap.size w W → ∃ bl ol, p = some ⟨bl, ol, none⟩ ∧ bl < w.heap.size ∧ W.cell? ⟨bl, ol + j * 10, none⟩ = some (.int .i64 (lst[j]!).e) ∧ W.cell? ⟨bl, ol + j * 10 + 1, none⟩ = some (.int .i64 (lst[j]!).d) ∧ W.cell? ⟨bl, ol + j * 10 + 2, none⟩ = some (.int .i64 (lst[j]!).c0) ∧ W.cell? ⟨bl, ol + j * 10 + 3, none⟩ = some (.int .i64 (lst[j]!).c1) ∧ W.cell? ⟨bl, ol + j * 10 + 4, none⟩ = some (.int .i64 (lst[j]!).c2) ∧ W.cell? ⟨bl, ol + j * 10 + 5, none⟩ = some (.int .i64 (lst[j]!).c3) ∧ W.cell? ⟨bl, ol + j * 10 + 6, none⟩ = some (.int .i64 (lst[j]!).k) ∧ W.cell? ⟨bl, ol + j * 10 + 7, none⟩ = some (.int .i64 (lst[j]!).v) ∧ W.cell? ⟨bl, ol + j * 10 + 8, none⟩ = some (.int .i64 (lst[j]!).n) ∧ W.cell? ⟨bl, ol + j * 10 + 9, none⟩ = some (.int .i64 (lst[j]!).c)) := fun W hW => by
          obtain ⟨pq, cq, eq1, hop⟩ := isOpenedU HIs.out
          obtain ⟨bl, ol, e2, hbl, hrl⟩ := hop j (by rw [HL.out]; exact hjL)
          have e3 : p = pq := by simp only [Value.slice.injEq] at eq1; exact eq1.1
          rw [e3]
          exact ⟨bl, ol, e2, hbl, atM (hrl.below hW hbl) j (by rw [HL.out]; exact hjL)⟩
        clear hTh h1 h2 HPo HLi HPos HG HIs hM hpb hkn HLst
        by_cases hone : L = 1
        · have d3 : ((L : Int) == 1) = true := by simp; omega
          have HDl := Lib.hid (pdelB_any ((A ++ pp :: C).map Prod.fst) g cap A.length B w4 HD4.out.own (by simp) (by omega) HBl.out)
          have HTk2 : Hid (takeN n e f t (j : Int) = (A ++ C).map Prod.snd) := by
            rw [Hid, HTk.out, if_pos (by omega), ← HPs.out, List.map_append, List.eraseIdx_append_of_length_le (by simp), List.length_map, Nat.sub_self, List.map_cons, List.eraseIdx_cons_zero, List.map_append]
          clear hone hlp hLp hok HTk
          have HLnn : Hid (A.length < ((A ++ pp :: C).map Prod.fst).length) := by rw [Hid]; simp
          generalize ((A ++ pp :: C).map Prod.fst).length = nn at *
          have hkn : A.length < nn := HLnn.out
          have hw64 : wrap64 ((A.length : Int) + 1) = ((A.length + 1 : Nat) : Int) := by unfold wrap64; omega
          go_wp2_with fail
          refine (HDl.out).mono ?_
          rintro x w5 ⟨rfl, hO5, hG5⟩
          have hgB := (HD4.out.own.lt g rfl).1
          have HDq := Lib.hid (HD4.out.drop hO5 hG5)
          have Nq : Hid (rowOf w5 w.heap.size = some (mvRow mv0)) := rowOf_block (hG5.block _ (rowOf_lt N0) (fun e => by have := Option.some.inj e; have := HZ1.out; omega)) |>.trans N0
          have HBq : Hid (Below w.heap.size w w5) := ⟨hG5.os.trans HB4.out.os, hG5.tape.trans HB4.out.tape, hG5.output.trans HB4.out.output, Nat.le_trans HB4.out.size hG5.size, fun b hb => (hG5.block b (by have := HB4.out.size; omega) fun e => by have := Option.some.inj e; have := HZ1.out; omega).trans (HB4.out.block b hb)⟩
          generalize nn - 1 = n1 at *
          clear hO5 hG5 HDl N0 HB4 HX4 HD4 HBl HPs hw64 hgB HL hkn HLnn hln HBl2 HBl3 HL5
          obtain ⟨bl, ol, rfl, hbl, r0, r1, r2, r3, r4, r5, r6, r7, r8, r9⟩ := HRd.out w5 HBq.out
          generalize lst[j]! = mm at *
          have R0 := fun p => beh_cell r0 p
          have R1 := fun p => beh_cell r1 p
          have R2 := fun p => beh_cell r2 p
          have R3 := fun p => beh_cell r3 p
          have R4 := fun p => beh_cell r4 p
          have R5 := fun p => beh_cell r5 p
          have R6 := fun p => beh_cell r6 p
          have R7 := fun p => beh_cell r7 p
          have R8 := fun p => beh_cell r8 p
          have R9 := fun p => beh_cell r9 p
          clear r0 r1 r2 r3 r4 r5 r6 r7 r8 r9 HRd hbl d1
          have hjz : (j : Int) < (L : Int) := by omega
          clear d2 d3
          go_upto_region 10 with (fail)
          refine wp_region_last (pre := ?pre) (tl := ?tl) 6 ?hp ?ht (by kernel_rfl) ?hB ?hT ?htl ?h
          case hp => simp only [List.take_succ_cons, List.take_zero] <;> exact rfl
          case ht => simp only [List.drop_succ_cons, List.drop_zero] <;> exact rfl
          case hB => kernel_rfl
          case hT => kernel_rfl
          case htl => exact List.cons_ne_nil _ _
          case h =>
            repeat (first | go_big_quiet_step (fail) | quiet_step (fail))
            refine wpQuiet_nil ?_
            intro _ hw'
            obtain ⟨q, hw''⟩ := hw'
            subst hw''
            have HBz := Lib.hid (bcall HBq.out q.h HBq.out.size)
            have HDz := Lib.hid (HDq.out.below q.h)
            have N0 : rowOf q.w w.heap.size = some (mvRow mv0) := rowOf_below Nq.out q.h (rowOf_lt Nq.out)
            clear R0 R1 R2 R3 R4 R5 R6 R7 R8 R9 HBq HDq Nq
            generalize q.w = wz at *
            clear q
            go_wp2_with fail
            refine gen_q (fun W' => rowOf W' w.heap.size = some (mvRow (mm)) ∧ Below w.heap.size w W' ∧ DeepB B W' (.slice (some ⟨g, 0, none⟩) n1 cap) (A ++ C)) ⟨row_set_same N0, below_setR HBz.out (Nat.le_refl _), HDz.out.keep (fun k hk _ => heap_setRow _ _ _ k (by have := HZ1.out; omega))⟩ ?_
            rintro w9 ⟨N9, hb9, hd9⟩
            have q0 : w9.cell? ⟨w.heap.size, 0, none⟩ = some (.int .i64 (mm).e) := rowOf_cell N9 0
            have q1 : w9.cell? ⟨w.heap.size, 1, none⟩ = some (.int .i64 (mm).d) := rowOf_cell N9 1
            have q2 : w9.cell? ⟨w.heap.size, 2, none⟩ = some (.int .i64 (mm).c0) := rowOf_cell N9 2
            have q3 : w9.cell? ⟨w.heap.size, 3, none⟩ = some (.int .i64 (mm).c1) := rowOf_cell N9 3
            have q4 : w9.cell? ⟨w.heap.size, 4, none⟩ = some (.int .i64 (mm).c2) := rowOf_cell N9 4
            have q5 : w9.cell? ⟨w.heap.size, 5, none⟩ = some (.int .i64 (mm).c3) := rowOf_cell N9 5
            have q6 : w9.cell? ⟨w.heap.size, 6, none⟩ = some (.int .i64 (mm).k) := rowOf_cell N9 6
            have q7 : w9.cell? ⟨w.heap.size, 7, none⟩ = some (.int .i64 (mm).v) := rowOf_cell N9 7
            have q8 : w9.cell? ⟨w.heap.size, 8, none⟩ = some (.int .i64 (mm).n) := rowOf_cell N9 8
            have q9 : w9.cell? ⟨w.heap.size, 9, none⟩ = some (.int .i64 (mm).c) := rowOf_cell N9 9
            clear N9
            exact bodyPost_ret (v := .tuple #[(.slice (some ⟨g, 0, none⟩) n1 cap), .agg #[.int .i64 (mm).e, .int .i64 (mm).d, .int .i64 (mm).c0, .int .i64 (mm).c1, .int .i64 (mm).c2, .int .i64 (mm).c3, .int .i64 (mm).k, .int .i64 (mm).v, .int .i64 (mm).n, .int .i64 (mm).c], .bool true]) (by simp [results, Try.results13, go_sem, q0, q1, q2, q3, q4, q5, q6, q7, q8, q9]) rfl ⟨_, by rw [HP.out, HM.out], AnsB.of hd9 HTk2.out.symm hb9 (Nat.le_of_lt HZ1.out)⟩
        · have d3 : ((L : Int) == 1) = false := by simp; omega
          have hbox := HD4.out.box pp (by simp)
          obtain ⟨gl, cl, hpl⟩ : ∃ gl cl, (Value.slice pp.1.p pp.1.n pp.1.c) = .slice (some ⟨gl, 0, none⟩) pp.2.l.length cl := by
            obtain ⟨h1, ⟨e, h2⟩ | ⟨gl, cap, cur, e, _⟩⟩ := hbox.l
            · omega
            · exact ⟨gl, cap, e⟩
          have hol : RM.Own B w4 (.slice (some ⟨gl, 0, none⟩) pp.2.l.length cl) pp.2.l := by rw [← hpl]; exact hbox.l
          have q := mapfst_at (A := A) (C := C) (p := pp)
          have hc := own_cell HD4.out.own q.2
          rw [q.1, hpl, ← hLp] at hc
          have c3 := hc.1
          have HDl := Lib.hid (pdelM_any pp.2.l gl cl j B w4 hol (by omega) (by omega) HBl.out)
          have HTk2 : Hid (∀ x : BW, (A ++ (x, (⟨pp.2.e, pp.2.f, pp.2.t, pp.2.l.eraseIdx j⟩ : BV)) :: C).map Prod.snd = takeN n e f t (j : Int)) := fun x => by
            rw [HTk.out, if_neg (by omega), ← HPs.out]
            exact (mapsnd_set rfl).symm
          have HBk : Hid (blkB pp.1 = some gl) := by show (Value.slice pp.1.p pp.1.n pp.1.c).ownBlock = some gl; rw [hpl]; rfl
          have HTu : Hid (∀ w5, RM.Own B w5 (.slice (some ⟨gl, 0, none⟩) (pp.2.l.length - 1) cl) (pp.2.l.eraseIdx j) → w4.grownBy w5 (some gl) → ∃ x : BW, w5.cell? ⟨g, A.length * 4 + 3, none⟩ = some (.slice (some ⟨gl, 0, none⟩) L cl) ∧ w5.frozen? ⟨g, A.length * 4 + 3, none⟩ = false ∧ DeepB B (w5.setCell ⟨g, A.length * 4 + 3, none⟩ (.slice (some ⟨gl, 0, none⟩) (pp.2.l.length - 1) cl)) (.slice (some ⟨g, 0, none⟩) ((A ++ pp :: C).map Prod.fst).length cap) (A ++ (x, (⟨pp.2.e, pp.2.f, pp.2.t, pp.2.l.eraseIdx j⟩ : BV)) :: C) ∧ rowOf (w5.setCell ⟨g, A.length * 4 + 3, none⟩ (.slice (some ⟨gl, 0, none⟩) (pp.2.l.length - 1) cl)) w.heap.size = some (mvRow mv0) ∧ Below w.heap.size w (w5.setCell ⟨g, A.length * 4 + 3, none⟩ (.slice (some ⟨gl, 0, none⟩) (pp.2.l.length - 1) cl))) := fun w5 hO5 hG5 => by
            have hG : w4.grownBy w5 (blkB pp.1) := by rw [HBk.out]; exact hG5
            have hOw := own_other' HD4.out.own hbox.l hG
            have hc := own_cell hOw q.2
            rw [q.1, hpl, ← hLp] at hc
            have T := HD4.out.turn hO5 (by rw [List.length_eraseIdx, if_pos (by omega)]) hG (.inl (by rw [hpl]; rfl))
            have hgB := (HD4.out.own.lt g rfl).1
            have hlB := (hol.lt gl rfl).1
            have hz := HZ1.out
            have hsz := HB4.out.size
            exact ⟨_, hc.1, hc.2, T.1, (rowOf_block (T.2.block _ (Nat.lt_of_lt_of_le (rowOf_lt N0) hG5.size) (fun e => by have := Option.some.inj e; omega))).trans ((rowOf_block (hG5.block _ (rowOf_lt N0) (fun e => by have := Option.some.inj e; omega))).trans N0),
              ⟨T.2.os.trans (hG5.os.trans HB4.out.os), T.2.tape.trans (hG5.tape.trans HB4.out.tape), T.2.output.trans (hG5.output.trans HB4.out.output), Nat.le_trans hsz (Nat.le_trans hG5.size T.2.size), fun b hb => (T.2.block b (by have := hG5.size; omega) (fun e => by have := Option.some.inj e; omega)).trans ((hG5.block b (by omega) (fun e => by have := Option.some.inj e; omega)).trans (HB4.out.block b hb))⟩⟩
          have hkn : (A.length : Int) < (((A ++ pp :: C).map Prod.fst).length : Int) := by have := q.2; omega
          have hw64 : wrap64 ((j : Int) + 1) = ((j + 1 : Nat) : Int) := by unfold wrap64; omega
          rw [← hLp] at HDl HTu
          clear hone hlp hok HTk hbox hpl hol q hc HBk N0 HB4 HX4 HD4 HBl HPs HBl2 HBl3 HL5 HL hLp hln
          generalize ((A ++ pp :: C).map Prod.fst).length = nn at *
          generalize hl1 : L - 1 = L1 at *
          go_wp2_with fail
          refine (HDl.out).mono ?_
          rintro x w5 ⟨rfl, hO5, hG5⟩
          obtain ⟨y, k3, k4, hT, hN, hB⟩ := HTu.out w5 hO5 hG5
          have HDq := Lib.hid hT
          have Nq := Lib.hid hN
          have HBq := Lib.hid hB
          clear hO5 hG5 HDl HTu hT hN hB c3 hw64 hl1
          go_upto_region 10 with (fail)
          generalize w5.setCell ⟨g, A.length * 4 + 3, none⟩ (.slice (some ⟨gl, 0, none⟩) L1 cl) = w6 at *
          clear k3 k4 hkn
          obtain ⟨bl, ol, rfl, hbl, r0, r1, r2, r3, r4, r5, r6, r7, r8, r9⟩ := HRd.out w6 HBq.out
          generalize lst[j]! = mm at *
          have R0 := fun p => beh_cell r0 p
          have R1 := fun p => beh_cell r1 p
          have R2 := fun p => beh_cell r2 p
          have R3 := fun p => beh_cell r3 p
          have R4 := fun p => beh_cell r4 p
          have R5 := fun p => beh_cell r5 p
          have R6 := fun p => beh_cell r6 p
          have R7 := fun p => beh_cell r7 p
          have R8 := fun p => beh_cell r8 p
          have R9 := fun p => beh_cell r9 p
          clear r0 r1 r2 r3 r4 r5 r6 r7 r8 r9 HRd hbl d1
          have hjz : (j : Int) < (L : Int) := by omega
          clear d2 d3
          refine wp_region_last (pre := ?pre) (tl := ?tl) 6 ?hp ?ht (by kernel_rfl) ?hB ?hT ?htl ?h
          case hp => simp only [List.take_succ_cons, List.take_zero] <;> exact rfl
          case ht => simp only [List.drop_succ_cons, List.drop_zero] <;> exact rfl
          case hB => kernel_rfl
          case hT => kernel_rfl
          case htl => exact List.cons_ne_nil _ _
          case h =>
            repeat (first | go_big_quiet_step (fail) | quiet_step (fail))
            refine wpQuiet_nil ?_
            intro _ hw'
            obtain ⟨q, hw''⟩ := hw'
            subst hw''
            have HBz := Lib.hid (bcall HBq.out q.h HBq.out.size)
            have HDz := Lib.hid (HDq.out.below q.h)
            have N0 : rowOf q.w w.heap.size = some (mvRow mv0) := rowOf_below Nq.out q.h (rowOf_lt Nq.out)
            clear R0 R1 R2 R3 R4 R5 R6 R7 R8 R9 HBq HDq Nq
            generalize q.w = wz at *
            clear q
            go_wp2_with fail
            refine gen_q (fun W' => rowOf W' w.heap.size = some (mvRow (mm)) ∧ Below w.heap.size w W' ∧ DeepB B W' (.slice (some ⟨g, 0, none⟩) nn cap) (A ++ (y, (⟨pp.2.e, pp.2.f, pp.2.t, pp.2.l.eraseIdx j⟩ : BV)) :: C)) ⟨row_set_same N0, below_setR HBz.out (Nat.le_refl _), HDz.out.keep (fun k hk _ => heap_setRow _ _ _ k (by have := HZ1.out; omega))⟩ ?_
            rintro w9 ⟨N9, hb9, hd9⟩
            have q0 : w9.cell? ⟨w.heap.size, 0, none⟩ = some (.int .i64 (mm).e) := rowOf_cell N9 0
            have q1 : w9.cell? ⟨w.heap.size, 1, none⟩ = some (.int .i64 (mm).d) := rowOf_cell N9 1
            have q2 : w9.cell? ⟨w.heap.size, 2, none⟩ = some (.int .i64 (mm).c0) := rowOf_cell N9 2
            have q3 : w9.cell? ⟨w.heap.size, 3, none⟩ = some (.int .i64 (mm).c1) := rowOf_cell N9 3
            have q4 : w9.cell? ⟨w.heap.size, 4, none⟩ = some (.int .i64 (mm).c2) := rowOf_cell N9 4
            have q5 : w9.cell? ⟨w.heap.size, 5, none⟩ = some (.int .i64 (mm).c3) := rowOf_cell N9 5
            have q6 : w9.cell? ⟨w.heap.size, 6, none⟩ = some (.int .i64 (mm).k) := rowOf_cell N9 6
            have q7 : w9.cell? ⟨w.heap.size, 7, none⟩ = some (.int .i64 (mm).v) := rowOf_cell N9 7
            have q8 : w9.cell? ⟨w.heap.size, 8, none⟩ = some (.int .i64 (mm).n) := rowOf_cell N9 8
            have q9 : w9.cell? ⟨w.heap.size, 9, none⟩ = some (.int .i64 (mm).c) := rowOf_cell N9 9
            clear N9
            exact bodyPost_ret (v := .tuple #[(.slice (some ⟨g, 0, none⟩) nn cap), .agg #[.int .i64 (mm).e, .int .i64 (mm).d, .int .i64 (mm).c0, .int .i64 (mm).c1, .int .i64 (mm).c2, .int .i64 (mm).c3, .int .i64 (mm).k, .int .i64 (mm).v, .int .i64 (mm).n, .int .i64 (mm).c], .bool true]) (by simp [results, Try.results13, go_sem, q0, q1, q2, q3, q4, q5, q6, q7, q8, q9]) rfl ⟨_, by rw [HP.out, HM.out], AnsB.of hd9 (HTk2.out _) hb9 (Nat.le_of_lt HZ1.out)⟩
end Go.Proofs.Ytdgnblkoohakeaa
