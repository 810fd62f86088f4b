/- NetRight's walk -/
import Derived.Test.YtdgnblkoohakeaaUzd
import Derived.Test.YtdgnblkoohakeaaUn
import Derived.Test.YtdgnblkoohakeaaUtk
import Derived.Test.YtdgnblkoohakeaaUf
import Derived.Test.YtdgnblkoohakeaaUnra
namespace Go.Proofs.Ytdgnblkoohakeaa
open Go.RowKit
set_option linter.unusedVariables false
set_option linter.unusedSimpArgs false
attribute [local go_sem ↓] eqMsg neMsg

set_option maxRecDepth 100000 in
set_option maxHeartbeats 16000000 in
theorem netRight_walk (n : List BV) (v : Value) (e f t i room : Int) (m : MV) (w : World) (h : IsBs w v n) : Calls Try.prog 3 #[v, .int .i64 e, .int .i64 f, .int .i64 t, .int .i64 i, .int .i64 room, MV.val m] w (Ret (.bool true) w) := by
  have HAw := Lib.hid (fun W => nawake_any netC W)
  have HSh := Lib.hid (fun W (hW : Below w.heap.size w W) => ushort_any n v W (h.below hW))
  have HIn : Hid (∀ W, Below w.heap.size w W → IsBs W v n) := fun W hW => h.below hW
  obtain ⟨xs0, hx0, hx1⟩ := h
  have HAr := Lib.hid hx1
  obtain ⟨p, c, rfl, ho⟩ := isOpenedU hx0
  have HO := Lib.hid ho
  have HXn : Hid (xs0.length = n.length) := hx1.1
  clear hx0 hx1 ho
  go_enter Try.func3, Try.ntmps3
  go_upto_region 1 with (fail)
  refine gen_world (fun W3 => Below w.heap.size w W3 ∧ Boxed W3 w.heap.size (mvRow m) 29) ⟨by first | exact (Below.refl _ _).alloc (Nat.le_refl _) _ | go_grown, by first | exact heap_alloc_new _ _ | skip⟩ ?_
  rintro w1 ⟨hb1, hx1⟩
  have HB := Lib.hid hb1
  have HM := Lib.hid hx1
  clear hb1 hx1
  go_wp2_with fail
  refine (HAw.out _).mono ?_
  rintro x2 w2 ⟨rfl, hb2⟩
  have HM := Lib.hid (HM.out.below hb2 HM.out.lt)
  have HB := Lib.hid (bcall HB.out hb2 HB.out.size)
  clear hb2 HAw
  go_wp2_with fail
  refine (HSh.out _ HB.out).mono ?_
  rintro x3 w3 ⟨rfl, hb3⟩
  have HM := Lib.hid (HM.out.below hb3 HM.out.lt)
  have HB := Lib.hid (bcall HB.out hb3 HB.out.size)
  clear hb3 HSh
  cases hs : shortN n
  · go_wp2
    go_returns
    exact ⟨rfl, HB.out⟩
  · obtain ⟨hn40, hl60⟩ := short_of hs
    have HSm : Hid (SmallN n) := ⟨by omega, fun b hb => by have := hl60 b hb; omega⟩
    have HL60 : Hid (∀ b ∈ n, b.l.length ≤ 60) := hl60
    clear hl60 hs
    go_wp2_with fail
    have HW3 := Lib.hid HB.out
    have HM3 := Lib.hid HM.out
    generalize w3 = wa at *
    go_loopg [15, 16] n.length (fun g2 v15 iv wr => ∃ k : Nat, k ≤ n.length ∧ n.length - k ≤ g2 ∧ iv = .int .i64 (k : Int) ∧ Hid (OutB wa.heap.size wr v15 (n.take k)) ∧ Hid (Below wa.heap.size wa wr))
    case atStart => exact ⟨0, Nat.zero_le _, by omega, rfl, OutB.nil _ _, Below.refl _ _⟩
    case round =>
      obtain ⟨k, hk, hg2, rfl, HOu, HBr⟩ := hrel
      rename World => wr
      clear HB HM
      have HBw := Lib.hid (bcall HW3.out HBr.out HW3.out.size)
      by_cases hlt : k < n.length
      · have hkx : k < xs0.length := by have := HXn.out; omega
        have hkz : (k : Int) < (xs0.length : Int) := by omega
        obtain ⟨b, off, rfl, hb, hrow⟩ := HO.out k hkx
        have HRw := Lib.hid (fun (W : World) (hW : Below w.heap.size w W) => atB4 (w := W) (hrow.below hW hb) k hkx)
        have HBx := Lib.hid (HAr.out.2 k hlt)
        have HTk : Hid (n.take k ++ [n[k]!] = n.take (k + 1)) := by rw [Hid, List.take_succ_eq_append_getElem hlt, getElem!_pos n k hlt]
        have hL60 : (n[k]!).l.length ≤ 60 := HL60.out _ (by rw [getElem!_pos n k hlt]; exact List.getElem_mem hlt)
        generalize xs0[k]! = r at *
        obtain ⟨re, rf, rt, rp, rn, rc⟩ := r
        clear hrow hkx
        obtain ⟨e0, e1, e2, e3⟩ := HRw.out wr HBw.out
        try simp only at e0 e1 e2 e3
        go_upto_region 10 with (fail)
        refine gen_world (fun W3 => Below wr.heap.size wr W3 ∧ Boxed W3 wr.heap.size #[.int .i64 re, .int .i64 rf, .int .i64 rt, .slice rp rn rc] 34) ⟨by first | exact (Below.refl _ _).alloc (Nat.le_refl _) _ | go_grown, by first | exact heap_alloc_new _ _ | skip⟩ ?_
        rintro w5 ⟨hb5, hx5⟩
        have HB5 := Lib.hid hb5
        have HY5 := Lib.hid hx5
        have HB5w := Lib.hid (bcall HBw.out hb5 HBw.out.size)
        clear e0 e1 e2 e3 hb5 hx5
        have hbe : re = (n[k]!).e := HBx.out.e
        have hbf : rf = (n[k]!).f := HBx.out.f
        have hbt : rt = (n[k]!).t := HBx.out.t
        have hrn : rn = (n[k]!).l.length := HBx.out.n
        have HNk : Hid (n[k]! = ⟨re, rf, rt, (n[k]!).l⟩) := by rw [Hid, hbe, hbf, hbt]
        have HIl : Hid (∀ W, Below w5.heap.size w5 W → RM.Is W (.slice rp rn rc) (n[k]!).l) := fun W hW => (HBx.out.l.below HB5w.out).below hW
        have HWE : Hid (Below w5.heap.size w5 (w5.alloc (.cells #[] 29))) := (Below.refl _ _).alloc (Nat.le_refl _) _
        have HE : Hid (RM.Free w5.heap.size (w5.alloc (.cells #[] 29)) (.slice (some ⟨w5.heap.size, 0, none⟩) 0 0) []) := .inr ⟨rfl, _, rfl⟩
        obtain ⟨e0, e1, e2, e3⟩ := HRw.out (w5.alloc (.cells #[] 29)) (bcall HB5w.out HWE.out HB5w.out.size)
        try simp only at e0 e1 e2 e3
        have HS1 := Lib.hid (HIl.out _ HWE.out)
        have HLe : Hid (([] : List MV).length + (n[k]!).l.length ≤ 900000) := by rw [Hid]; simp only [List.length_nil]; omega
        generalize hli : (n[k]!).l = li at HIl HS1 HLe HNk hrn hL60
        have HRn := Lib.hid hrn
        clear hrn
        have HFin : Hid (∀ (W : World) (v : Value), Below w5.heap.size w5 W → RM.Free w5.heap.size W v li → ∃ p c, v = .slice p rn c ∧ W.cell? ⟨wr.heap.size, 3, none⟩ = some (.slice rp rn rc) ∧ W.frozen? ⟨wr.heap.size, 3, none⟩ = false ∧ Below wr.heap.size wr (W.setCell ⟨wr.heap.size, 3, none⟩ (.slice p rn c)) ∧ rowOf (W.setCell ⟨wr.heap.size, 3, none⟩ (.slice p rn c)) wr.heap.size = some #[.int .i64 re, .int .i64 rf, .int .i64 rt, .slice p rn c] ∧ isBx (W.setCell ⟨wr.heap.size, 3, none⟩ (.slice p rn c)) ⟨re, rf, rt, p, rn, c⟩ ⟨re, rf, rt, li⟩ ∧ (li ≠ [] → OffG (fun x => u15.ownBlock = some x) (.slice p rn c))) := fun W v hW hF => by
          have hrn := HRn.out
          have hI := hF.is
          have hcap : capOk v := by
            rcases hF with hF | ⟨_, ad, rfl⟩
            · exact capM_own hF
            · intro p n c e; cases e; exact Nat.le_refl _
          obtain ⟨p, c, rfl⟩ := hI.slice
          rw [← hrn] at hI hcap hF ⊢
          have HB := HY5.out.below hW HY5.out.lt
          have hR := Boxed.row HB
          have hset := setCell_row hR 3 (.slice p rn c)
          have hoth : ∀ x, x ≠ wr.heap.size → (W.setCell ⟨wr.heap.size, 3, none⟩ (.slice p rn c)).heap[x]? = W.heap[x]? := fun x hx => by rw [hset]; exact heap_setRow _ _ _ x hx
          have hsz : (W.setCell ⟨wr.heap.size, 3, none⟩ (.slice p rn c)).heap.size = W.heap.size := by rw [hset, size_setRow]
          have hrw : rowOf (W.setCell ⟨wr.heap.size, 3, none⟩ (.slice p rn c)) wr.heap.size = some #[.int .i64 re, .int .i64 rf, .int .i64 rt, .slice p rn c] := by
            rw [hset]; exact rowOf_setRow_same _ _ (by rw [hR]; rfl)
          have hBs : Below wr.heap.size wr (W.setCell ⟨wr.heap.size, 3, none⟩ (.slice p rn c)) := by rw [hset]; exact below_setR (bcall HB5.out hW HB5.out.size) (Nat.le_refl _)
          refine ⟨p, c, rfl, HB.cell 3, HB.frozen 3, hBs, hrw, ?_, ?_⟩
          · generalize W.setCell ⟨wr.heap.size, 3, none⟩ (.slice p rn c) = W2 at *
            refine ⟨rfl, rfl, rfl, hrn, hcap _ _ _ rfl, ?_⟩
            refine is_keepG (G := fun x => x = wr.heap.size) hI (fun hne x o n' c' e hx => ?_) (by rw [hsz]; exact Nat.le_refl _) fun x _ hx => hoth x hx
            have hO : RM.Own w5.heap.size W (.slice p rn c) li := by
              rcases hF with hF | ⟨hF, _⟩
              · exact hF
              · exact absurd hF hne
            have h1 := (hO.lt x (by rw [e]; rfl)).1
            have h2 := HY5.out.lt
            omega
          · intro hne x o n' c' e hx
            have hO : RM.Own w5.heap.size W (.slice p rn c) li := by
              rcases hF with hF | ⟨hF, _⟩
              · exact hF
              · exact absurd hF hne
            have h1 := (hO.lt x (by rw [e]; rfl)).1
            have h2 := HY5.out.lt
            have h3 := (HOu.out.lt x hx).2
            omega
        have HNk2 : Hid (n[k]! = ⟨re, rf, rt, li⟩) := by rw [Hid, ← hli]; rw [hbe, hbf, hbt]
        clear HRw HBx hbe hbf hbt HNk hL60 HIl hli HBw HB5w
        go_upto_region 11 with (at_builtin; refine RowKind.Free.append (R := RM) (ys := li) (by decide) rfl _ _ rfl HE.out rfl rfl HS1.out HLe.out HWE.out.size ?_; intro v9 w9 hO9 hG9 hS9 hL9; rw [List.nil_append] at hO9; obtain ⟨p9, c9, rfl, t1, t2, t3, t4, t5, t6⟩ := HFin.out w9 v9 (hG9.below HWE.out (Nat.le_refl _) HWE.out.size) hO9; have T3 := Lib.hid t3; have T4 := Lib.hid t4; have T5 := Lib.hid t5; have T6 := Lib.hid t6; clear hO9 hG9 hS9 hL9 t3 t4 t5 t6 e0 e1 e2 e3)
        clear HE HWE HS1 HLe HFin HY5 HB5 HRn
        generalize w9.setCell ⟨wr.heap.size, 3, none⟩ (.slice p9 rn c9) = wv at *
        have f0 : wv.cell? ⟨wr.heap.size, 0, none⟩ = some (.int .i64 re) := rowOf_cell T4.out 0
        have f1 : wv.cell? ⟨wr.heap.size, 1, none⟩ = some (.int .i64 rf) := rowOf_cell T4.out 1
        have f2 : wv.cell? ⟨wr.heap.size, 2, none⟩ = some (.int .i64 rt) := rowOf_cell T4.out 2
        have f3 : wv.cell? ⟨wr.heap.size, 3, none⟩ = some (.slice p9 rn c9) := rowOf_cell T4.out 3
        have HAq : Hid (Below wv.heap.size wv (wv.alloc (.cells (RB4.enc ⟨re, rf, rt, p9, rn, c9⟩).toArray 34))) := (Below.refl _ _).alloc (Nat.le_refl _) _
        have HAw : Hid (Below wr.heap.size wr (wv.alloc (.cells (RB4.enc ⟨re, rf, rt, p9, rn, c9⟩).toArray 34))) := bcall T3.out HAq.out T3.out.size
        have HAa : Hid (Below wa.heap.size wa (wv.alloc (.cells (RB4.enc ⟨re, rf, rt, p9, rn, c9⟩).toArray 34))) := bcall HBr.out HAw.out HBr.out.size
        have HOv := Lib.hid (HOu.out.below HAw.out)
        have HLe3 : Hid ((n.take k).length + 1 ≤ 900000) := by rw [Hid, List.length_take]; omega
        clear T3 T4 t1 t2
        go_wp2_with (at_builtin; refine OutB.append (b := ⟨re, rf, rt, li⟩) rfl _ _ rfl ⟨re, rf, rt, p9, rn, c9⟩ HOv.out rfl rfl (.inr ⟨by simp, wv.heap.size, 0, 1, rfl, by simp, RowKind.Row.new (R := RB4) wv _ 34⟩) (T5.out.below HAq.out) T6.out HLe3.out HAa.out.size ?_; intro v11 w11 hO11 hG11 hS11; have HO11 := Lib.hid hO11; have HB11 := Lib.hid (hG11.below HAa.out (Nat.le_refl _) HAa.out.size); clear hO11 hG11 hS11 f0 f1 f2 f3)
        go_roundg (n.length - (k + 1))
        case measure => omega
        case rel => exact ⟨k + 1, by omega, by omega, by go_num, by rw [← HTk.out, HNk2.out]; exact HO11.out, HB11.out⟩
      · obtain rfl : k = n.length := by omega
        have hkz : ¬ ((n.length : Nat) : Int) < (xs0.length : Int) := by have := HXn.out; omega
        have HMi : Hid (IsBs wr u15 n) := by have q := HOu.out.is; rw [List.take_length] at q; exact q
        have HMx := Lib.hid (HM3.out.below HBr.out HM3.out.lt)
        have HSr := Lib.hid (fun (vv : Value) (W : World) (hI : IsBs W vv n) => pright_any n vv W (by omega) hI)
        have HSu := Lib.hid (fun (W : World) (hW : Below w.heap.size w W) => uright_any n (.slice p xs0.length c) W (by omega) (HIn.out W hW))
        have HBz := Lib.hid HBw.out
        have HAlA := Lib.hid (fun (vv : Value) (W : World) (hI : IsBs W vv n) => pall_any n vv W HSm.out hI)
        have HLn1 := Lib.hid (fun (vv : Value) (W : World) (hI : IsBs W vv n) => plen_any n vv e f t W (by omega) hI)
        have HLn2 := Lib.hid (fun (W : World) (hW : Below w.heap.size w W) => ulen_any n (.slice p xs0.length c) e f t W (by omega) (HIn.out W hW))
        have hq1 := put_shortN (f := f) (t := t) (room := room) (m := m) HL60.out
        have hq2 := take_shortN (e := e) (f := f) (t := t) (i := i) HL60.out
        have HSa : Hid (∀ (va vb : Value) (W : World), IsBs W va (putN n f t room m) → IsBs W vb (putN n f t room m) → Calls Try.prog 12 #[va, vb] W (Ret (.bool true) W)) := fun va vb W h1 h2 => by
          have q := usame_any (putN n f t room m) (putN n f t room m) va vb W (by omega) (by omega) (fun j hj => by have := all_get hq1.2 j hj; omega) (fun j hj => by have := all_get hq1.2 j hj; omega) h1 h2
          rwa [decide_eq_true rfl] at q
        have HSb : Hid (∀ (va vb : Value) (W : World), IsBs W va (takeN n e f t i) → IsBs W vb (takeN n e f t i) → Calls Try.prog 12 #[va, vb] W (Ret (.bool true) W)) := fun va vb W h1 h2 => by
          have q := usame_any (takeN n e f t i) (takeN n e f t i) va vb W (by omega) (by omega) (fun j hj => by have := all_get hq2.2 j hj; omega) (fun j hj => by have := all_get hq2.2 j hj; omega) h1 h2
          rwa [decide_eq_true rfl] at q
        have HSc : Hid (∀ (va vb : Value) (W : World), IsBs W va n → IsBs W vb n → Calls Try.prog 12 #[va, vb] W (Ret (.bool true) W)) := fun va vb W h1 h2 => by
          have q := usame_any n n va vb W (by omega) (by omega) (fun j hj => by have := all_get HL60.out j hj; omega) (fun j hj => by have := all_get HL60.out j hj; omega) h1 h2
          rwa [decide_eq_true rfl] at q
        have hal : (allN n).length ≤ 900000 := by
          have q := flat_le (n := n) (fun b hb => by have := HL60.out b hb; omega)
          unfold allN
          split
          · omega
          · simp
        have HSd : Hid (∀ (va vb : Value) (W : World), RM.Is W va (allN n) → RM.Is W vb (allN n) → Calls Try.prog 17 #[va, vb] W (Ret (.bool true) W)) := fun va vb W h1 h2 => by
          have q := usamem_any (allN n) (allN n) va vb W hal hal h1 h2
          rwa [decide_eq_true rfl] at q
        have HTk1 := Lib.hid (fun (vv : Value) (W : World) (hI : IsBs W vv n) => ptake_any n vv e f t i W HSm.out hI)
        have HTk2 := Lib.hid (fun (W : World) (hW : Below w.heap.size w W) => utake_any n (.slice p xs0.length c) e f t i W HSm.out (HIn.out W hW))
        have HPt1 := Lib.hid (fun (vv : Value) (W : World) (hI : IsBs W vv n) => pput_any n vv f t room m W HSm.out hI)
        have HPt2 := Lib.hid (fun (W : World) (hW : Below w.heap.size w W) => uput_any n (.slice p xs0.length c) f t room m W HSm.out (HIn.out W hW))
        clear hq1 hq2 hal HOu HBr HM3 HW3 HBw
        have c0 : wr.cell? ⟨w.heap.size, 0, none⟩ = some (.int .i64 m.e) := HMx.out.cell 0
        have c1 : wr.cell? ⟨w.heap.size, 1, none⟩ = some (.int .i64 m.d) := HMx.out.cell 1
        have c2 : wr.cell? ⟨w.heap.size, 2, none⟩ = some (.int .i64 m.c0) := HMx.out.cell 2
        have c3 : wr.cell? ⟨w.heap.size, 3, none⟩ = some (.int .i64 m.c1) := HMx.out.cell 3
        have c4 : wr.cell? ⟨w.heap.size, 4, none⟩ = some (.int .i64 m.c2) := HMx.out.cell 4
        have c5 : wr.cell? ⟨w.heap.size, 5, none⟩ = some (.int .i64 m.c3) := HMx.out.cell 5
        have c6 : wr.cell? ⟨w.heap.size, 6, none⟩ = some (.int .i64 m.k) := HMx.out.cell 6
        have c7 : wr.cell? ⟨w.heap.size, 7, none⟩ = some (.int .i64 m.v) := HMx.out.cell 7
        have c8 : wr.cell? ⟨w.heap.size, 8, none⟩ = some (.int .i64 m.n) := HMx.out.cell 8
        have c9 : wr.cell? ⟨w.heap.size, 9, none⟩ = some (.int .i64 m.c) := HMx.out.cell 9
        go_wp2_with fail
        refine (HPt1.out _ _ HMi.out).mono ?_
        rintro x21 w21 ⟨u18, rfl, hi18, _, hb21, _⟩
        have HMx := Lib.hid (HMx.out.below hb21 HMx.out.lt)
        have HMi := Lib.hid (HMi.out.below hb21)
        have HBz := Lib.hid (bcall HBz.out hb21 HBz.out.size)
        have HI18 := Lib.hid hi18
        clear hb21 hi18 c0 c1 c2 c3 c4 c5 c6 c7 c8 c9
        have c0 : w21.cell? ⟨w.heap.size, 0, none⟩ = some (.int .i64 m.e) := HMx.out.cell 0
        have c1 : w21.cell? ⟨w.heap.size, 1, none⟩ = some (.int .i64 m.d) := HMx.out.cell 1
        have c2 : w21.cell? ⟨w.heap.size, 2, none⟩ = some (.int .i64 m.c0) := HMx.out.cell 2
        have c3 : w21.cell? ⟨w.heap.size, 3, none⟩ = some (.int .i64 m.c1) := HMx.out.cell 3
        have c4 : w21.cell? ⟨w.heap.size, 4, none⟩ = some (.int .i64 m.c2) := HMx.out.cell 4
        have c5 : w21.cell? ⟨w.heap.size, 5, none⟩ = some (.int .i64 m.c3) := HMx.out.cell 5
        have c6 : w21.cell? ⟨w.heap.size, 6, none⟩ = some (.int .i64 m.k) := HMx.out.cell 6
        have c7 : w21.cell? ⟨w.heap.size, 7, none⟩ = some (.int .i64 m.v) := HMx.out.cell 7
        have c8 : w21.cell? ⟨w.heap.size, 8, none⟩ = some (.int .i64 m.n) := HMx.out.cell 8
        have c9 : w21.cell? ⟨w.heap.size, 9, none⟩ = some (.int .i64 m.c) := HMx.out.cell 9
        go_wp2_with fail
        refine (HPt2.out _ HBz.out).mono ?_
        rintro x22 w22 ⟨u20, rfl, hi20, _, hb22⟩
        have HMx := Lib.hid (HMx.out.below hb22 HMx.out.lt)
        have HMi := Lib.hid (HMi.out.below hb22)
        have HBz := Lib.hid (bcall HBz.out hb22 HBz.out.size)
        have HI18 := Lib.hid (HI18.out.below hb22)
        have HI20 := Lib.hid hi20
        clear hb22 hi20 HPt1 HPt2 c0 c1 c2 c3 c4 c5 c6 c7 c8 c9
        generalize putOk n f t room m = P at *
        go_wp2_with fail
        refine (HSr.out _ _ HMi.out).mono ?_
        rintro x23 w23 ⟨rfl, hb23⟩
        have HMx := Lib.hid (HMx.out.below hb23 HMx.out.lt)
        have HMi := Lib.hid (HMi.out.below hb23)
        have HBz := Lib.hid (bcall HBz.out hb23 HBz.out.size)
        have HI18 := Lib.hid (HI18.out.below hb23)
        have HI20 := Lib.hid (HI20.out.below hb23)
        clear hb23 
        go_wp2_with fail
        refine (HSu.out _ HBz.out).mono ?_
        rintro x24 w24 ⟨rfl, hb24⟩
        have HMx := Lib.hid (HMx.out.below hb24 HMx.out.lt)
        have HMi := Lib.hid (HMi.out.below hb24)
        have HBz := Lib.hid (bcall HBz.out hb24 HBz.out.size)
        have HI18 := Lib.hid (HI18.out.below hb24)
        have HI20 := Lib.hid (HI20.out.below hb24)
        clear hb24 
        have hR1 : (rightN n != rightN n) = false := by cases rightN n <;> rfl
        have hP1 : (P != P) = false := by cases P <;> rfl
        go_wp2_with fail
        refine (HSa.out _ _ _ HI18.out HI20.out).mono ?_
        rintro x25 w25 ⟨rfl, hb25⟩
        have HMx := Lib.hid (HMx.out.below hb25 HMx.out.lt)
        have HMi := Lib.hid (HMi.out.below hb25)
        have HBz := Lib.hid (bcall HBz.out hb25 HBz.out.size)
        clear hb25 HI18 HI20 HSa hR1 hP1
        go_wp2_with fail
        refine (HTk1.out _ _ HMi.out).mono ?_
        rintro x26 w26 ⟨u22, rfl, hi22, _, hb26, _⟩
        have HMx := Lib.hid (HMx.out.below hb26 HMx.out.lt)
        have HMi := Lib.hid (HMi.out.below hb26)
        have HBz := Lib.hid (bcall HBz.out hb26 HBz.out.size)
        have HI22 := Lib.hid hi22
        clear hb26 hi22
        generalize takeM n e f t i = mm at *
        generalize takeOk n e f t i = TO at *
        obtain ⟨x0, x1, x2, x3, x4, x5, x6, x7, x8, x9⟩ := mm
        go_upto_region 17 with (fail)
        refine gen_world (fun W3 => Below w26.heap.size w26 W3 ∧ Boxed W3 w26.heap.size (mvRow ⟨x0, x1, x2, x3, x4, x5, x6, x7, x8, x9⟩) 29) ⟨by first | exact (Below.refl _ _).alloc (Nat.le_refl _) _ | go_grown, by first | exact heap_alloc_new _ _ | skip⟩ ?_
        rintro wb ⟨hbb, hxb⟩
        have HXb := Lib.hid hxb
        have HMx := Lib.hid (HMx.out.below hbb HMx.out.lt)
        have HMi := Lib.hid (HMi.out.below hbb)
        have HBz := Lib.hid (bcall HBz.out hbb HBz.out.size)
        have HI22 := Lib.hid (HI22.out.below hbb)
        clear hbb hxb
        generalize w26.heap.size = b1 at *
        go_wp2_with fail
        refine (HTk2.out _ HBz.out).mono ?_
        rintro x27 w27 ⟨u23, rfl, hi23, _, hb27⟩
        have HMx := Lib.hid (HMx.out.below hb27 HMx.out.lt)
        have HMi := Lib.hid (HMi.out.below hb27)
        have HBz := Lib.hid (bcall HBz.out hb27 HBz.out.size)
        have HI22 := Lib.hid (HI22.out.below hb27)
        have HXb := Lib.hid (HXb.out.below hb27 HXb.out.lt)
        have HI23 := Lib.hid hi23
        clear hb27 hi23 HTk1 HTk2
        go_upto_region 18 with (fail)
        refine gen_world (fun W3 => Below w27.heap.size w27 W3 ∧ Boxed W3 w27.heap.size (mvRow ⟨x0, x1, x2, x3, x4, x5, x6, x7, x8, x9⟩) 29) ⟨by first | exact (Below.refl _ _).alloc (Nat.le_refl _) _ | go_grown, by first | exact heap_alloc_new _ _ | skip⟩ ?_
        rintro wc ⟨hbb, hxc⟩
        have HXc := Lib.hid hxc
        have HXb := Lib.hid (HXb.out.below hbb HXb.out.lt)
        have HMi := Lib.hid (HMi.out.below hbb)
        have HBz := Lib.hid (bcall HBz.out hbb HBz.out.size)
        have HI22 := Lib.hid (HI22.out.below hbb)
        have HI23 := Lib.hid (HI23.out.below hbb)
        clear hbb hxc HMx
        generalize w27.heap.size = b2 at *
        have hTO : (TO == TO) = true := by cases TO <;> rfl
        have hMM : eqM ⟨x0, x1, x2, x3, x4, x5, x6, x7, x8, x9⟩ ⟨x0, x1, x2, x3, x4, x5, x6, x7, x8, x9⟩ = true := decide_eq_true rfl
        cases hR : rightN n
        · have hn0 : 0 < n.length := by
            cases n with
            | nil => exact absurd hR (by decide)
            | cons a l => simp
          have hnz : (0 : Int) < (xs0.length : Int) := by have := HXn.out; omega
          have HAl : Hid (RM.Is wc (.slice none 0 0) (allN n)) := by unfold allN; rw [if_neg (by rw [hR]; decide)]; exact RowKind.Is.nil _
          have HXb := HXb
          go_wp2_with fail
          refine wp_loop_rounds 1 ?_
          rw [rounds_succ]
          rw [hR] at HSu
          go_wp2_with fail
          refine (HSu.out _ HBz.out).mono ?_
          rintro x61 w61 ⟨rfl, hb61⟩
          have HMi := Lib.hid (HMi.out.below hb61)
          have HBz := Lib.hid (bcall HBz.out hb61 HBz.out.size)
          have HI22 := Lib.hid (HI22.out.below hb61)
          have HI23 := Lib.hid (HI23.out.below hb61)
          have HAl := Lib.hid (HAl.out.below hb61)
          have HXb := Lib.hid (HXb.out.below hb61 HXb.out.lt)
          have HXc := Lib.hid (HXc.out.below hb61 HXc.out.lt)
          clear hb61 
          have y0 : w61.cell? ⟨b1, 0, none⟩ = some (.int .i64 x0) := HXb.out.cell 0
          have y1 : w61.cell? ⟨b1, 1, none⟩ = some (.int .i64 x1) := HXb.out.cell 1
          have y2 : w61.cell? ⟨b1, 2, none⟩ = some (.int .i64 x2) := HXb.out.cell 2
          have y3 : w61.cell? ⟨b1, 3, none⟩ = some (.int .i64 x3) := HXb.out.cell 3
          have y4 : w61.cell? ⟨b1, 4, none⟩ = some (.int .i64 x4) := HXb.out.cell 4
          have y5 : w61.cell? ⟨b1, 5, none⟩ = some (.int .i64 x5) := HXb.out.cell 5
          have y6 : w61.cell? ⟨b1, 6, none⟩ = some (.int .i64 x6) := HXb.out.cell 6
          have y7 : w61.cell? ⟨b1, 7, none⟩ = some (.int .i64 x7) := HXb.out.cell 7
          have y8 : w61.cell? ⟨b1, 8, none⟩ = some (.int .i64 x8) := HXb.out.cell 8
          have y9 : w61.cell? ⟨b1, 9, none⟩ = some (.int .i64 x9) := HXb.out.cell 9
          have z0 : w61.cell? ⟨b2, 0, none⟩ = some (.int .i64 x0) := HXc.out.cell 0
          have z1 : w61.cell? ⟨b2, 1, none⟩ = some (.int .i64 x1) := HXc.out.cell 1
          have z2 : w61.cell? ⟨b2, 2, none⟩ = some (.int .i64 x2) := HXc.out.cell 2
          have z3 : w61.cell? ⟨b2, 3, none⟩ = some (.int .i64 x3) := HXc.out.cell 3
          have z4 : w61.cell? ⟨b2, 4, none⟩ = some (.int .i64 x4) := HXc.out.cell 4
          have z5 : w61.cell? ⟨b2, 5, none⟩ = some (.int .i64 x5) := HXc.out.cell 5
          have z6 : w61.cell? ⟨b2, 6, none⟩ = some (.int .i64 x6) := HXc.out.cell 6
          have z7 : w61.cell? ⟨b2, 7, none⟩ = some (.int .i64 x7) := HXc.out.cell 7
          have z8 : w61.cell? ⟨b2, 8, none⟩ = some (.int .i64 x8) := HXc.out.cell 8
          have z9 : w61.cell? ⟨b2, 9, none⟩ = some (.int .i64 x9) := HXc.out.cell 9
          go_wp2_with fail
          refine (HSb.out _ _ _ HI22.out HI23.out).mono ?_
          rintro x62 w62 ⟨rfl, hb62⟩
          have HMi := Lib.hid (HMi.out.below hb62)
          have HBz := Lib.hid (bcall HBz.out hb62 HBz.out.size)
          have HI22 := Lib.hid (HI22.out.below hb62)
          have HI23 := Lib.hid (HI23.out.below hb62)
          have HAl := Lib.hid (HAl.out.below hb62)
          clear hb62 HSb HXb HXc y0 z0 y1 z1 y2 z2 y3 z3 y4 z4 y5 z5 y6 z6 y7 z7 y8 z8 y9 z9
          go_wp2_with fail
          refine (HLn1.out _ _ HMi.out).mono ?_
          rintro x63 w63 ⟨rfl, hb63⟩
          have HMi := Lib.hid (HMi.out.below hb63)
          have HBz := Lib.hid (bcall HBz.out hb63 HBz.out.size)
          have HAl := Lib.hid (HAl.out.below hb63)
          clear hb63 
          go_wp2_with fail
          refine (HLn2.out _ HBz.out).mono ?_
          rintro x64 w64 ⟨rfl, hb64⟩
          have HMi := Lib.hid (HMi.out.below hb64)
          have HBz := Lib.hid (bcall HBz.out hb64 HBz.out.size)
          have HAl := Lib.hid (HAl.out.below hb64)
          clear hb64 HLn1 HLn2
          have hLL : (((lenN n e f t : Nat) : Int) == ((lenN n e f t : Nat) : Int)) = true := by simp
          go_wp2_with fail
          refine (HAlA.out _ _ HMi.out).mono ?_
          rintro x65 w65 ⟨ua, rfl, hia, hb65⟩
          have HMi := Lib.hid (HMi.out.below hb65)
          have HBz := Lib.hid (bcall HBz.out hb65 HBz.out.size)
          have HAl := Lib.hid (HAl.out.below hb65)
          have HIa := Lib.hid hia
          clear hb65 hia
          go_wp2_with fail
          refine (HSd.out _ _ _ HIa.out HAl.out).mono ?_
          rintro x66 w66 ⟨rfl, hb66⟩
          have HMi := Lib.hid (HMi.out.below hb66)
          have HBz := Lib.hid (bcall HBz.out hb66 HBz.out.size)
          clear hb66 HIa HSd HAl
          go_wp2_with fail
          refine (HSc.out _ _ _ HMi.out (HIn.out _ HBz.out)).mono ?_
          rintro x67 w67 ⟨rfl, hb67⟩
          have HBz := Lib.hid (bcall HBz.out hb67 HBz.out.size)
          clear hb67 
          go_wp2
          go_returns
          exact ⟨rfl, HBz.out⟩
        · have HAe : Hid (allN n = n.flatMap BV.l) := by rw [Hid]; unfold allN; rw [if_pos hR]
          rw [hR] at HSu
          have HLf : Hid (∀ k, k < n.length → (((n.take k).flatMap BV.l).length + (n[k]!).l.length) * RM.bytes ≤ 140737488355328) := fun k hk => by
            have h1 := flat_le (n := n.take (k + 1)) fun b hb => by have := HL60.out b (List.mem_of_mem_take hb); omega
            rw [flat_succ hk, List.length_append] at h1
            have h3 : (n.take (k + 1)).length ≤ 40 := by rw [List.length_take]; omega
            have h80 : RM.bytes = 80 := rfl
            rw [h80]
            omega
          clear hR
          go_wp2_with fail
          go_loopg [24, 25] n.length (fun g2 v24 iv wr => ∃ k : Nat, k ≤ n.length ∧ n.length - k ≤ g2 ∧ iv = .int .i64 (k : Int) ∧ Hid (RM.Own wc.heap.size wr v24 ((n.take k).flatMap BV.l)) ∧ Hid (Below wc.heap.size wc wr))
          case atStart => exact ⟨0, Nat.zero_le _, by omega, rfl, RowKind.Own.nil RM _ _, Below.refl _ _⟩
          case round =>
            obtain ⟨k, hk, hg2, rfl, HOw, HBr⟩ := hrel
            rename World => wo
            have HBo := Lib.hid (bcall HBz.out HBr.out HBz.out.size)
            by_cases hlt : k < n.length
            · have hkx : k < xs0.length := by have := HXn.out; omega
              have hkz : (k : Int) < (xs0.length : Int) := by omega
              go_wp2_with fail
              refine (HSu.out _ HBo.out).mono ?_
              rintro x w7 ⟨rfl, hb7⟩
              have HB7 := Lib.hid (bcall HBo.out hb7 HBo.out.size)
              have HBc7 := Lib.hid (bcall HBr.out hb7 HBr.out.size)
              have HOw7 := Lib.hid (HOw.out.below hb7)
              obtain ⟨b, off, rfl, hb, hrow⟩ := HO.out k hkx
              obtain ⟨e0, e1, e2, e3⟩ := atB4 (hrow.below HB7.out hb) k hkx
              have HIl := Lib.hid ((HAr.out.2 k hlt).l.below HB7.out)
              have HLk := Lib.hid (HLf.out k hlt)
              have HSuc := Lib.hid (flat_succ hlt)
              generalize xs0[k]! = r at *
              obtain ⟨re, rf, rt, rp, rn, rc⟩ := r
              generalize (n[k]!).l = li at *
              try simp only at e0 e1 e2 e3
              clear hb7 hrow HOw HBo
              go_wp2_with (at_builtin; refine RowKind.Own.appendAnyL (R := RM) (ys := li) HOw7.out HBc7.out HBc7.out.size (by decide) rfl _ _ rfl rfl rfl HIl.out HLk.out ?_; intro v9 w9 hO9 hB9 hz9; have HB9 := Lib.hid hB9; have HO9 := Lib.hid hO9; clear hO9 hB9 hz9 e0 e1 e2 e3)
              go_roundg (n.length - (k + 1))
              case measure => omega
              case rel => exact ⟨k + 1, by omega, by omega, by go_num, by rw [HSuc.out]; exact HO9.out, HB9.out⟩
            · obtain rfl : k = n.length := by omega
              have hkz : ¬ ((n.length : Nat) : Int) < (xs0.length : Int) := by have := HXn.out; omega
              have HAl : Hid (RM.Is wo u24 (allN n)) := by have q := HOw.out.is; rw [List.take_length] at q; rw [HAe.out]; exact q
              have HMi := Lib.hid (HMi.out.below HBr.out)
              have HI22 := Lib.hid (HI22.out.below HBr.out)
              have HI23 := Lib.hid (HI23.out.below HBr.out)
              have HXb := Lib.hid (HXb.out.below HBr.out HXb.out.lt)
              have HXc := Lib.hid (HXc.out.below HBr.out HXc.out.lt)
              have HBz := Lib.hid HBo.out
              clear HOw HBr HBo HLf
              have y0 : wo.cell? ⟨b1, 0, none⟩ = some (.int .i64 x0) := HXb.out.cell 0
              have y1 : wo.cell? ⟨b1, 1, none⟩ = some (.int .i64 x1) := HXb.out.cell 1
              have y2 : wo.cell? ⟨b1, 2, none⟩ = some (.int .i64 x2) := HXb.out.cell 2
              have y3 : wo.cell? ⟨b1, 3, none⟩ = some (.int .i64 x3) := HXb.out.cell 3
              have y4 : wo.cell? ⟨b1, 4, none⟩ = some (.int .i64 x4) := HXb.out.cell 4
              have y5 : wo.cell? ⟨b1, 5, none⟩ = some (.int .i64 x5) := HXb.out.cell 5
              have y6 : wo.cell? ⟨b1, 6, none⟩ = some (.int .i64 x6) := HXb.out.cell 6
              have y7 : wo.cell? ⟨b1, 7, none⟩ = some (.int .i64 x7) := HXb.out.cell 7
              have y8 : wo.cell? ⟨b1, 8, none⟩ = some (.int .i64 x8) := HXb.out.cell 8
              have y9 : wo.cell? ⟨b1, 9, none⟩ = some (.int .i64 x9) := HXb.out.cell 9
              have z0 : wo.cell? ⟨b2, 0, none⟩ = some (.int .i64 x0) := HXc.out.cell 0
              have z1 : wo.cell? ⟨b2, 1, none⟩ = some (.int .i64 x1) := HXc.out.cell 1
              have z2 : wo.cell? ⟨b2, 2, none⟩ = some (.int .i64 x2) := HXc.out.cell 2
              have z3 : wo.cell? ⟨b2, 3, none⟩ = some (.int .i64 x3) := HXc.out.cell 3
              have z4 : wo.cell? ⟨b2, 4, none⟩ = some (.int .i64 x4) := HXc.out.cell 4
              have z5 : wo.cell? ⟨b2, 5, none⟩ = some (.int .i64 x5) := HXc.out.cell 5
              have z6 : wo.cell? ⟨b2, 6, none⟩ = some (.int .i64 x6) := HXc.out.cell 6
              have z7 : wo.cell? ⟨b2, 7, none⟩ = some (.int .i64 x7) := HXc.out.cell 7
              have z8 : wo.cell? ⟨b2, 8, none⟩ = some (.int .i64 x8) := HXc.out.cell 8
              have z9 : wo.cell? ⟨b2, 9, none⟩ = some (.int .i64 x9) := HXc.out.cell 9
              go_wp2_with fail
              refine (HSb.out _ _ _ HI22.out HI23.out).mono ?_
              rintro x81 w81 ⟨rfl, hb81⟩
              have HMi := Lib.hid (HMi.out.below hb81)
              have HBz := Lib.hid (bcall HBz.out hb81 HBz.out.size)
              have HI22 := Lib.hid (HI22.out.below hb81)
              have HI23 := Lib.hid (HI23.out.below hb81)
              have HAl := Lib.hid (HAl.out.below hb81)
              clear hb81 HSb HXb HXc y0 z0 y1 z1 y2 z2 y3 z3 y4 z4 y5 z5 y6 z6 y7 z7 y8 z8 y9 z9
              go_wp2_with fail
              refine (HLn1.out _ _ HMi.out).mono ?_
              rintro x82 w82 ⟨rfl, hb82⟩
              have HMi := Lib.hid (HMi.out.below hb82)
              have HBz := Lib.hid (bcall HBz.out hb82 HBz.out.size)
              have HAl := Lib.hid (HAl.out.below hb82)
              clear hb82 
              go_wp2_with fail
              refine (HLn2.out _ HBz.out).mono ?_
              rintro x83 w83 ⟨rfl, hb83⟩
              have HMi := Lib.hid (HMi.out.below hb83)
              have HBz := Lib.hid (bcall HBz.out hb83 HBz.out.size)
              have HAl := Lib.hid (HAl.out.below hb83)
              clear hb83 HLn1 HLn2
              have hLL : (((lenN n e f t : Nat) : Int) == ((lenN n e f t : Nat) : Int)) = true := by simp
              go_wp2_with fail
              refine (HAlA.out _ _ HMi.out).mono ?_
              rintro x84 w84 ⟨ua, rfl, hia, hb84⟩
              have HMi := Lib.hid (HMi.out.below hb84)
              have HBz := Lib.hid (bcall HBz.out hb84 HBz.out.size)
              have HAl := Lib.hid (HAl.out.below hb84)
              have HIa := Lib.hid hia
              clear hb84 hia
              go_wp2_with fail
              refine (HSd.out _ _ _ HIa.out HAl.out).mono ?_
              rintro x85 w85 ⟨rfl, hb85⟩
              have HMi := Lib.hid (HMi.out.below hb85)
              have HBz := Lib.hid (bcall HBz.out hb85 HBz.out.size)
              clear hb85 HIa HSd HAl
              go_wp2_with fail
              refine (HSc.out _ _ _ HMi.out (HIn.out _ HBz.out)).mono ?_
              rintro x86 w86 ⟨rfl, hb86⟩
              have HBz := Lib.hid (bcall HBz.out hb86 HBz.out.size)
              clear hb86 
              go_wp2
              go_returns
              exact ⟨rfl, HBz.out⟩
end Go.Proofs.Ytdgnblkoohakeaa
