/- the document's Ahead -/
import Derived.Test.YtjaahmgokiobjaaGreatG47
import Derived.Test.YtjaahmgokiobjaaGreatG48
import Derived.Test.YtjaahmgokiobjaaGreatG50
namespace Go.Proofs.YtjaahmgokiobjaaGreat
open Go.RowKit
set_option linter.unusedVariables false
set_option linter.unusedSimpArgs false

theorem refOf_u (xs : List TV) (v : Value) (w : World) (hl : xs.length ≤ 1000000000000) (h : RTi.Is w v xs) : Calls Tryz.prog 24 #[v] w (MadeT (ofT xs) w) := by
  rcases h with ⟨rfl, p, cap, rfl, _⟩ | ⟨h0, b, off, cap, rfl, hb, hr⟩
  · rw [show ofT [] = [] from List.eq_nil_of_length_eq_zero (Nat.le_zero.1 (ofT_length []))]
    go_enter Tryz.func24, Tryz.ntmps24
    go_wp2
    refine wp_loop_rounds 1 ?_
    rw [rounds_succ]
    go_wp2
    go_returns
    exact ⟨_, rfl, OwnTT.nil _ _, Below.refl _ _⟩
  · exact refOf_row xs b off cap w hl hb hr
/-- how many rows the document's Ahead looks at -/
def upTo (N len : Nat) (m : Int) : Nat := if 0 ≤ m ∧ m < (N : Int) then min N len else 0
theorem upTo_le (N len : Nat) (m : Int) : upTo N len m ≤ len := by unfold upTo; split <;> omega
theorem ap_col {S : List HV} {t : TV} {k : Nat} (hk : k < S.length) (A : List TV) : A ++ (S.take (k + 1)).flatMap (fun h => apL h t) = (A ++ (S.take k).flatMap fun h => apL h t) ++ apL S[k]! t := by
  rw [flat_take _ hk, List.append_assoc]
set_option maxRecDepth 100000 in
set_option maxHeartbeats 40000000 in
theorem rahead_u {w : World} {bt N : Nat} {rws : Nat → Nat → List HV} (T : TabW w bt N rws) (hN : N ≤ 900000) (m : Int) (pts : List (List TV)) (v : Value) (hp : IsPts w v pts) (hS : ∀ n : Int, (stepsZ rws N n m).length ≤ 10985000) (hl : pts.length ≤ 40) (ht : ∀ n, n < pts.length → List.length pts[n]! ≤ 40) :
    Calls Tryz.prog 11 #[.slice (some ⟨bt, 0, none⟩) N N, v, .int .i64 m] w (MadeT (ofT (comeD (fun n => stepsZ rws N (n : Int) m) pts (upTo N pts.length m))) w) := by
  have HSt : Hid (∀ n : Nat, n < upTo N pts.length m → n < N ∧ 0 ≤ m ∧ m < (N : Int) ∧ n < pts.length) := fun n hn => by unfold upTo at hn; split at hn <;> omega
  have HNo : Hid (∀ n : Nat, n = upTo N pts.length m → n < N → n < pts.length → 0 ≤ m → ¬ m < (N : Int)) := fun n hn => by unfold upTo at hn; split at hn <;> omega
  have HTb := Lib.hid T
  obtain ⟨p, c, rfl, ho⟩ := hp.opened
  have HO := Lib.hid ho
  have HAp := Lib.hid (fun x t W => rapply_any x t W)
  generalize hS0 : (fun n : Nat => stepsZ rws N (n : Int) m) = S
  have HSz : Hid (∀ n : Nat, S n = stepsZ rws N (n : Int) m) := fun n => by rw [← hS0]
  clear hS0
  have HSl : Hid (∀ n : Nat, (S n).length ≤ 10985000) := fun n => by rw [HSz.out]; exact hS n
  have HTl := Lib.hid ht
  have HCs := Lib.hid (comeD_succ S pts)
  have HCl : Hid (∀ k, k ≤ pts.length → (comeD S pts k).length ≤ 17576000000) := fun k hk => comeD_len HSl.out hl ht hk
  have hK := upTo_le N pts.length m
  generalize upTo N pts.length m = K at *
  have HFin : Hid (∀ W u, RTi.Is W u (comeD S pts K) → Calls Tryz.prog 24 #[u] W (MadeT (ofT (comeD S pts K)) W)) := fun W u h => refOf_u _ u W (by have := HCl.out K hK; omega) h
  have HC0 : Hid (comeD S pts 0 = []) := rfl
  generalize ofT (comeD S pts K) = res at *
  clear hp ho hS ht T
  go_enter Tryz.func11, Tryz.ntmps11
  go_wp2_with fail
  go_loopg [7, 8] K (fun gg cv iv wr => ∃ k : Nat, k ≤ K ∧ K - k ≤ gg ∧ iv = .int .i64 (k : Int) ∧ Hid (RTi.Own w.heap.size wr cv (comeD S pts k)) ∧ Hid (Below w.heap.size w wr))
  case atStart => exact ⟨0, Nat.zero_le _, by omega, rfl, by rw [HC0.out]; exact RowKind.Own.nil RTi _ _, Below.refl _ _⟩
  case round =>
    obtain ⟨k, hk, hg, rfl, HA, HB⟩ := hrel
    rename World => wo
    by_cases hlt : k < K
    · obtain ⟨a1, a2, a3, a4⟩ := HSt.out k hlt
      have a1z : (k : Int) < (N : Int) := by omega
      have a4z : (k : Int) < (pts.length : Int) := by omega
      obtain ⟨mm, rfl⟩ : ∃ mm : Nat, m = (mm : Int) := ⟨m.toNat, by omega⟩
      obtain ⟨b, off, q, d, rfl, hI, hcel⟩ := HO.out k a4
      obtain ⟨blk, h1, h2⟩ := HTb.out.row k a1
      obtain ⟨qs, ls, cs, h3, h4, h5⟩ := h2 mm (by omega)
      have b1 : bt < w.heap.size := World.block_lt_of_cell? _ _ h1
      have b2 : blk < w.heap.size := World.block_lt_of_cell? _ _ h3
      have hXe : S k = rws k mm := by
        rw [HSz.out]
        unfold stepsZ
        rw [if_pos (by omega)]
        rfl
      rw [← hXe] at h4 h5
      have HCl3 : Hid (∀ W, Below w.heap.size w W → W.cell? ⟨bt, k, none⟩ = some (.slice (some ⟨blk, 0, none⟩) N N) ∧ W.cell? ⟨blk, mm, none⟩ = some (.slice qs ls cs) ∧ W.cell? ⟨b, off + k, none⟩ = some (.slice q (List.length pts[k]!) d)) := fun W hW => ⟨(hW.cell (p := ⟨bt, k, none⟩) b1).trans h1, (hW.cell (p := ⟨blk, mm, none⟩) b2).trans h3, hcel W hW⟩
      have HI := Lib.hid hI
      have HIS := Lib.hid h5
      have htk := HTl.out k a4
      have hsk := HSl.out k
      have hck := HCl.out k (by omega)
      have HCk := Lib.hid (HCs.out k)
      generalize pts[k]! = ts at *
      generalize hSk : S k = X at *
      generalize comeD S pts k = A at *
      have HAl : Hid (∀ j, (A ++ (ts.take j).flatMap fun t => X.flatMap fun h => apL h t).length ≤ 20000000000) := fun j => by
        have h1 := cols_len hsk htk j
        rw [List.length_append]
        omega
      subst h4
      have HA0 : Hid (RTi.Own w.heap.size wo u7 (A ++ (ts.take 0).flatMap fun t => X.flatMap fun h => apL h t)) := by
        rw [Hid, List.take_zero, List.flatMap_nil, List.append_nil]
        exact HA.out
      have hmz : (mm : Int) < (N : Int) := a3
      have hmz0 : ¬ (mm : Int) < 0 := by omega
      clear hI hcel h5 hSk hXe h1 h2 h3 HA HSt HO HTl HSl HCl HFin HC0 HSz HCs HTb HNo a3 b1 b2
      go_wp2_with fail
      go_loopg [7, 9] ts.length (fun g2 cv jv wr => ∃ j : Nat, j ≤ ts.length ∧ ts.length - j ≤ g2 ∧ jv = .int .i64 (j : Int) ∧ Hid (RTi.Own w.heap.size wr cv (A ++ (ts.take j).flatMap fun t => X.flatMap fun h => apL h t)) ∧ Hid (Below w.heap.size w wr))
      case atStart => exact ⟨0, Nat.zero_le _, by omega, rfl, HA0.out, HB.out⟩
      case round =>
        obtain ⟨j, hj, hg2, rfl, HA4, HB4⟩ := hrel
        rename World => w4
        clear HA0 HB
        obtain ⟨c1, c2, c3⟩ := HCl3.out w4 HB4.out
        by_cases hjt : j < ts.length
        · have hjz : (j : Int) < (ts.length : Int) := by omega
          obtain ⟨pt, ct, eq1, hop⟩ := RowKind.Is.opened HI.out
          simp only [Value.slice.injEq] at eq1
          obtain ⟨rfl, _, rfl⟩ := eq1
          obtain ⟨b2, o2, rfl, hbt, hrt⟩ := hop j hjt
          have HTc := Lib.hid (fun W (hW : Below w.heap.size w W) => atTi (hrt.below hW hbt) j hjt)
          have HF2 := Lib.hid (flat_take (fun t => X.flatMap fun h => apL h t) hjt)
          have hal := HAl.out j
          generalize ts[j]! = t at *
          generalize hA1 : A ++ (ts.take j).flatMap (fun t => X.flatMap fun h => apL h t) = A1 at *
          have HNx : Hid (A ++ (ts.take (j + 1)).flatMap (fun t => X.flatMap fun h => apL h t) = A1 ++ X.flatMap fun h => apL h t) := by
            rw [Hid, HF2.out, ← List.append_assoc, hA1]
          have HA5 : Hid (RTi.Own w.heap.size w4 u7 (A1 ++ (X.take 0).flatMap fun h => apL h t)) := by
            rw [Hid, List.take_zero, List.flatMap_nil, List.append_nil]
            exact HA4.out
          clear hop hrt HF2 hA1 HA4
          go_wp2_with fail
          go_loopg [7, 10] X.length (fun g3 cv iv wr => ∃ i : Nat, i ≤ X.length ∧ X.length - i ≤ g3 ∧ iv = .int .i64 (i : Int) ∧ Hid (RTi.Own w.heap.size wr cv (A1 ++ (X.take i).flatMap fun h => apL h t)) ∧ Hid (Below w.heap.size w wr))
          case atStart => exact ⟨0, Nat.zero_le _, by omega, rfl, HA5.out, HB4.out⟩
          case round =>
            obtain ⟨i, hi, hg3, rfl, HA6, HB6⟩ := hrel
            rename World => w6
            clear HA5 HB4 c1 c2 c3
            obtain ⟨c1, c2, c3⟩ := HCl3.out w6 HB6.out
            by_cases hit : i < X.length
            · have hiz : (i : Int) < (X.length : Int) := by omega
              obtain ⟨pq, cq, eq1, hop⟩ := RowKind.Is.opened HIS.out
              simp only [Value.slice.injEq] at eq1
              obtain ⟨rfl, _, rfl⟩ := eq1
              obtain ⟨bh, oh, rfl, hbh, hrh⟩ := hop i hit
              have HE := Lib.hid (fun W (hW : Below w6.heap.size w6 W) => elem_cells (hop_elem hrh hbh (bcall HB6.out hW HB6.out.size) i hit))
              have HK := Lib.hid (fun W (hW : Below w6.heap.size w6 W) => HCl3.out W (bcall HB6.out hW HB6.out.size))
              have HTk := Lib.hid (fun W (hW : Below w6.heap.size w6 W) => HTc.out W (bcall HB6.out hW HB6.out.size))
              have HNi := Lib.hid (ap_col (t := t) hit A1)
              have hLen : ((A1 ++ (X.take i).flatMap fun h => apL h t).length + 1) * RTi.bytes ≤ 140737488355328 := by
                have h1 := col_len hsk t i
                rw [List.length_append]
                show _ * 40 ≤ _
                omega
              generalize X[i]! = x at *
              have HApx := Lib.hid (fun W => HAp.out x t W)
              have hapl : apL x t = if applyOk x t = true then [applyT x t] else [] := rfl
              rw [hapl] at HNi
              generalize A1 ++ (X.take i).flatMap (fun h => apL h t) = A2 at *
              generalize applyT x t = y at *
              generalize applyOk x t = ok at *
              have HLen := Lib.hid hLen
              clear hop hrh hapl hLen
              go_wp2_with fail
              refine wp_region_float (ka := 21) (ks := 22) (d := 11) (oa := _) (os := _) (ta := []) (ts := [75]) (pv := fun b => .pointer (some ⟨b, 0, none⟩)) (us := undef) (B1 := fun b W => W.heap[b]? = some (.cells (tvRow ⟨0, 0, 0, 0, 0⟩) 29 (0, 0))) (B2 := fun b W => W.heap[b]? = some (.cells (tvRow y) 29 (0, 0))) (fin := ?fin) (m := false) (by kernel_rfl) rfl rfl rfl rfl rfl (by kernel_rfl) (by kernel_rfl) (by simp) ?st1 ?st2 ?ha ?hs ?h ?hQ
              case h =>
                intro V hV
                simp only [flo, List.set_cons_succ, List.set_cons_zero]
                obtain ⟨x0, x1, x2⟩ := HK.out V hV.1
                obtain ⟨y0, y1, y2, y3, y4⟩ := HTk.out V hV.1
                obtain ⟨z0, z1, z2, z3, z4, z5, z6, z7, z8, z9, z10⟩ := HE.out V hV.1
                have X0 := fun p : Bd false V => bd_cell x0 p
                have X1 := fun p : Bd false V => bd_cell x1 p
                have X2 := fun p : Bd false V => bd_cell x2 p
                have Y0 := fun p : Bd false V => bd_cell y0 p
                have Y1 := fun p : Bd false V => bd_cell y1 p
                have Y2 := fun p : Bd false V => bd_cell y2 p
                have Y3 := fun p : Bd false V => bd_cell y3 p
                have Y4 := fun p : Bd false V => bd_cell y4 p
                have Z0 := fun p : Bd false V => bd_cell z0 p
                have Z1 := fun p : Bd false V => bd_cell z1 p
                have Z2 := fun p : Bd false V => bd_cell z2 p
                have Z3 := fun p : Bd false V => bd_cell z3 p
                have Z4 := fun p : Bd false V => bd_cell z4 p
                have Z5 := fun p : Bd false V => bd_cell z5 p
                have Z6 := fun p : Bd false V => bd_cell z6 p
                have Z7 := fun p : Bd false V => bd_cell z7 p
                have Z8 := fun p : Bd false V => bd_cell z8 p
                have Z9 := fun p : Bd false V => bd_cell z9 p
                have Z10 := fun p : Bd false V => bd_cell z10 p
                clear x0 x1 x2 y0 y1 y2 y3 y4 z0 z1 z2 z3 z4 z5 z6 z7 z8 z9 z10
                have K2 : Hid (∀ p : Bd false V, Calls Tryz.prog 21 #[x.val, t.val] p.w (Ret (.tuple #[y.val, .bool ok]) p.w)) := fun p => HApx.out p.w
                repeat (first | go_big_quiet_step (first | (with_reducible exact Calls.bd (K2.out _))) | quiet_step (first | (with_reducible exact Calls.bd (K2.out _))))
                refine wpQuiet_nil ?_
                rfl
              case st1 => exact fun b W W' h hb => (hb.block b (Array.getElem?_eq_some_iff.1 h).1).trans h
              case st2 => exact fun b W W' h hb => (hb.block b (Array.getElem?_eq_some_iff.1 h).1).trans h
              case ha =>
                intro ρ W _
                refine ⟨W.alloc (.cells (tvRow ⟨0, 0, 0, 0, 0⟩) 29), ?_, ⟨(Below.refl _ _).alloc (Nat.le_refl _) _, fun _ => Nat.le_refl _⟩, heap_alloc_new W _⟩
                simp [execOp, go_sem]
                all_goals rfl
              case hs =>
                intro c W b K hb hB h1 hd ht hK
                have h18 := ht 75 (by simp)
                have hr : rowOf W b = some (tvRow ⟨0, 0, 0, 0, 0⟩) := by unfold rowOf; rw [h1]; simp
                have h18' : c.eval (.tmp 75) = y.val := h18
                rw [storeT, hd, h18']
                simp only [rowAt_head, hr]
                rw [if_pos ⟨rfl, rfl, by decide, rfl⟩]
                exact hK _ ⟨below_setRow hB.1 _ _ hb, fun e => by cases e⟩ (RowKind.heap_set h1)
              case hQ =>
                intro b9 W hb hB hh
                simp only [Act.put, List.setIfInBounds_toArray, List.set_cons_succ, List.set_cons_zero]
                have HHB : Hid (Boxed W b9 (tvRow y) 29) := hh
                have HB8 := Lib.hid (bcall HB6.out hB.1 HB6.out.size)
                have HA8 := Lib.hid (HA6.out.below hB.1)
                have hz8 := HB8.out.size
                have x0 : W.cell? ⟨b9, 0, none⟩ = some (.int .i64 y.d) := HHB.out.cell 0
                have x1 : W.cell? ⟨b9, 1, none⟩ = some (.int .i64 y.c0) := HHB.out.cell 1
                have x2 : W.cell? ⟨b9, 2, none⟩ = some (.int .i64 y.c1) := HHB.out.cell 2
                have x3 : W.cell? ⟨b9, 3, none⟩ = some (.int .i64 y.c2) := HHB.out.cell 3
                have x4 : W.cell? ⟨b9, 4, none⟩ = some (.int .i64 y.c3) := HHB.out.cell 4
                clear hb hB hh HK HTk HE HHB HA6 HB6
                cases ok
                · have HN0 : Hid (A1 ++ (X.take (i + 1)).flatMap (fun h => apL h t) = A2) := by
                    have q := HNi.out
                    rw [if_neg (by decide), List.append_nil] at q
                    exact q
                  clear HNi
                  go_wp2_with fail
                  go_roundg (X.length - (i + 1))
                  case measure => omega
                  case rel => exact ⟨i + 1, by omega, by omega, by go_num, by rw [HN0.out]; exact HA8.out, HB8.out⟩
                · have HN1 : Hid (A1 ++ (X.take (i + 1)).flatMap (fun h => apL h t) = A2 ++ [y]) := by
                    have q := HNi.out
                    rw [if_pos rfl] at q
                    exact q
                  have HAp8 := Lib.hid (own_boxT W y 29)
                  have HA9 := Lib.hid (HA8.out.alloc (.cells #[.int .i64 y.d, .int .i64 y.c0, .int .i64 y.c1, .int .i64 y.c2, .int .i64 y.c3] 29))
                  have HB9 : Hid (Below w.heap.size w (W.alloc (.cells #[.int .i64 y.d, .int .i64 y.c0, .int .i64 y.c1, .int .i64 y.c2, .int .i64 y.c3] 29))) := HB8.out.alloc hz8 _
                  have hz9 := HB9.out.size
                  clear HNi HA8
                  go_wp2_with (at_builtin; refine RowKind.Own.appendAnyBL (R := RTi) (ys := [y]) (by decide) rfl _ _ rfl HA9.out rfl rfl HAp8.out HLen.out hz9 ?_; intro v6 w9 hO6 hG6 _; have HO6 := Lib.hid hO6; have HB6 : Hid (Below w.heap.size w w9) := HB9.out.grown hG6 hz9 (fun q hq => (HA9.out.lt q hq).1); clear hO6 hG6)
                  go_roundg (X.length - (i + 1))
                  case measure => omega
                  case rel => exact ⟨i + 1, by omega, by omega, by go_num, by rw [HN1.out]; exact HO6.out, HB6.out⟩
            · obtain rfl : i = X.length := by omega
              rw [List.take_length] at HA6
              go_wp2
              go_roundg (ts.length - (j + 1))
              case measure => omega
              case rel => exact ⟨j + 1, by omega, by omega, by go_num, by rw [HNx.out]; exact HA6.out, HB6.out⟩
        · obtain rfl : j = ts.length := by omega
          rw [List.take_length] at HA4
          go_wp2
          go_roundg (K - (k + 1))
          case measure => omega
          case rel => exact ⟨k + 1, by omega, by omega, by go_num, by rw [HCk.out]; exact HA4.out, HB4.out⟩
    · obtain rfl : k = K := by omega
      have HIf := Lib.hid HA.out.is
      have HFk := Lib.hid (HFin.out wo _ HIf.out)
      have hno := HNo.out k rfl
      clear HFin HIf HSt HO HTl HSl HCl HC0 HSz HCs HTb HNo
      by_cases d1 : k < N
      · have d1z : (k : Int) < (N : Int) := by omega
        by_cases d2 : k < pts.length
        · have d2z : (k : Int) < (pts.length : Int) := by omega
          by_cases d3 : 0 ≤ m
          · have d4 := hno d1 d2 d3
            go_wp2_with fail
            refine (HFk.out).mono ?_
            rintro e w2 ⟨v2, rfl, hO2, hb2⟩
            have HO2 := Lib.hid (hO2.mono HB.out.size)
            have HB2 := Lib.hid (bcall HB.out hb2 HB.out.size)
            clear hO2 hb2
            go_wp2
            go_returns
            exact ⟨_, rfl, HO2.out, HB2.out⟩
          · go_wp2_with fail
            refine (HFk.out).mono ?_
            rintro e w2 ⟨v2, rfl, hO2, hb2⟩
            have HO2 := Lib.hid (hO2.mono HB.out.size)
            have HB2 := Lib.hid (bcall HB.out hb2 HB.out.size)
            clear hO2 hb2
            go_wp2
            go_returns
            exact ⟨_, rfl, HO2.out, HB2.out⟩
        · have d2z : ¬ (k : Int) < (pts.length : Int) := by omega
          go_wp2_with fail
          refine (HFk.out).mono ?_
          rintro e w2 ⟨v2, rfl, hO2, hb2⟩
          have HO2 := Lib.hid (hO2.mono HB.out.size)
          have HB2 := Lib.hid (bcall HB.out hb2 HB.out.size)
          clear hO2 hb2
          go_wp2
          go_returns
          exact ⟨_, rfl, HO2.out, HB2.out⟩
      · have d1z : ¬ (k : Int) < (N : Int) := by omega
        go_wp2_with fail
        refine (HFk.out).mono ?_
        rintro e w2 ⟨v2, rfl, hO2, hb2⟩
        have HO2 := Lib.hid (hO2.mono HB.out.size)
        have HB2 := Lib.hid (bcall HB.out hb2 HB.out.size)
        clear hO2 hb2
        go_wp2
        go_returns
        exact ⟨_, rfl, HO2.out, HB2.out⟩
end Go.Proofs.YtjaahmgokiobjaaGreat
