/- the program's Table, of a graph that may run -/
import Derived.Test.YtjaahmgokiobjaaGreatG38
import Derived.Test.YtjaahmgokiobjaaGreatG05
namespace Go.Proofs.YtjaahmgokiobjaaGreat
open Go.RowKit
set_option linter.unusedVariables false
set_option linter.unusedSimpArgs false

def RTt : RowKind SV where
  enc := fun s => [s.val]
  k := 1
  k0 := by decide
  len := fun _ => rfl
  one := by
    intro c u hu
    simp at hu
    subst hu
    rfl
  tE := 50
  tS := 34
  zero := .slice none 0 0
  bytes := 24
  info := by kernel_rfl
  under := Tryz.underlying34
  zlen := rfl
  byt := by decide
theorem make_ttt (n : Nat) (hn : n ≤ 1000000) (W : World) : (Instr.makeSlice 34 (.int .i64 (n : Int)) (.int .i64 (n : Int))).run Tryz.prog W = .ok (.slice (some ⟨W.heap.size, 0, none⟩) n n) (W.alloc (.cells (svCells (List.replicate n ⟨none, 0, 0⟩)) 50)) := by
  have h := run_make_rows (P := Tryz.prog) (t := RTt.tS) RTt.under RTt.info RTt.byt n hn W
  have h : (Instr.makeSlice 34 (.int .i64 (n : Int)) (.int .i64 (n : Int))).run Tryz.prog W = .ok (.slice (some ⟨W.heap.size, 0, none⟩) n n) (W.alloc (.cells (madeCells #[.slice none 0 0] (n * 1)) 50)) := h
  rw [made_cells] at h
  exact h
theorem OHH.setOther {B : Nat} {W : World} {blk : Nat} {svs : List SV} {rows : List (List HV)} (h : OHH B W blk svs rows) {b i : Nat} (hb : b < B) (v : Value) : OHH B (W.setCell ⟨b, i, none⟩ v) blk svs rows :=
  ⟨h.lo, (Below.heap_setCell W ⟨b, i, none⟩ v blk (by have := h.lo; show blk ≠ b; omega)).trans h.heap, h.len, fun m hm => (h.own m hm).keepJ fun l hl => Below.heap_setCell W ⟨b, i, none⟩ v l (by have := (h.own m hm).lt l hl; show l ≠ b; omega), h.ne, h.sep⟩
/-- so many rows of the table are laid -/
structure TabS (low : Nat → List (List HV)) (N : Nat) (W : World) (bt : Nat) (tl : List SV) (k : Nat) : Prop where
  heap : W.heap[bt]? = some (.cells (svCells tl) 50 (0, 0))
  len : tl.length = N
  row : ∀ n, n < k → ∃ blk svs rows, tl[n]! = ⟨some ⟨blk, 0, none⟩, N, N⟩ ∧ OHH (bt + 1) W blk svs rows ∧ rows.length = N ∧ ∀ m, m < N → List.Perm rows[m]! (low n)[m]!
namespace TabS
variable {low : Nat → List (List HV)} {N : Nat} {W W' : World} {bt : Nat} {tl : List SV} {k : Nat}
theorem lt (h : TabS low N W bt tl k) : bt < W.heap.size := (Array.getElem?_eq_some_iff.1 h.heap).1
theorem below (h : TabS low N W bt tl k) (hb : Below W.heap.size W W') : TabS low N W' bt tl k :=
  ⟨(hb.block bt h.lt).trans h.heap, h.len, fun n hn => by
    obtain ⟨blk, svs, rows, e, o, hl, hp⟩ := h.row n hn
    exact ⟨blk, svs, rows, e, o.below hb, hl, hp⟩⟩
theorem cell (h : TabS low N W bt tl k) (m : Nat) (hm : m < N) : W.cell? ⟨bt, m, none⟩ = some tl[m]!.val := by
  have hm : m < tl.length := by rw [h.len]; exact hm
  unfold World.cell?
  rw [h.heap]
  simp only [svCells]
  rw [getElem!_pos tl m hm]
  simp [hm]
theorem frozen (h : TabS low N W bt tl k) (m : Nat) : W.frozen? ⟨bt, m, none⟩ = false := by
  unfold World.frozen?
  rw [h.heap]
  simp
theorem put (h : TabS low N W bt tl k) (hk : k < N) {blk : Nat} {svs : List SV} {rows : List (List HV)} (o : OHH (bt + 1) W blk svs rows) (hl : rows.length = N) (hp : ∀ m, m < N → List.Perm rows[m]! (low k)[m]!) :
    TabS low N (W.setCell ⟨bt, k, none⟩ (.slice (some ⟨blk, 0, none⟩) N N)) bt (tl.set k ⟨some ⟨blk, 0, none⟩, N, N⟩) (k + 1) := by
  refine ⟨?_, by rw [List.length_set]; exact h.len, fun n hn => ?_⟩
  · rw [← OHH.set_cells]
    simp only [World.setCell, Array.getElem?_modify, if_true]
    rw [h.heap]
    rfl
  · rw [set_get _ _ _ _ (by rw [h.len]; exact hk)]
    split
    · rename_i e
      subst e
      exact ⟨blk, svs, rows, rfl, o.setOther (Nat.lt_succ_self _) _, hl, hp⟩
    · rename_i hne
      obtain ⟨blk', svs', rows', e, o', hl', hp'⟩ := h.row n (by omega)
      exact ⟨blk', svs', rows', e, o'.setOther (Nat.lt_succ_self _) _, hl', hp'⟩
end TabS
/-- what Table answers -/
def PTabR (low : Nat → List (List HV)) (N : Nat) (w : World) (e : Ending) (w' : World) : Prop :=
  ∃ bt tl, e = .returned (.slice (some ⟨bt, 0, none⟩) N N) ∧ TabS low N w' bt tl N ∧ w.heap.size ≤ bt ∧ Below w.heap.size w w'
set_option maxRecDepth 100000 in
set_option maxHeartbeats 16000000 in
theorem ptable_any (g : GV) (v : Value) (w : World) (h : IsG w v g) (hN : g.nodes.length ≤ 900000) (low : Nat → List (List HV)) (hlow : ∀ n, n < g.nodes.length → (low n).length = g.nodes.length)
    (hchk : ∀ W, Below w.heap.size w W → Calls Tryz.prog 14 #[v] W (fun e w' => (∃ b : Int, e = .returned (.tuple #[.int .i64 0, .int .i64 b])) ∧ Below W.heap.size W w'))
    (hrow : ∀ n : Nat, n < g.nodes.length → ∀ W, Below w.heap.size w W → Calls Tryz.prog 15 #[v, .int .i64 (n : Int)] W (PRowR (low n) W)) :
    Calls Tryz.prog 6 #[v] w (PTabR low g.nodes.length w) := by
  have HC := Lib.hid hchk
  have HR := Lib.hid hrow
  have HL := Lib.hid hlow
  obtain ⟨p1, c1, p2, c2, p3, c3, p4, c4, rfl, G⟩ := h.go
  clear h G hchk hrow hlow
  generalize g.parent.length = n1 at *
  generalize g.bound.length = n2 at *
  generalize g.nodes.length = N at *
  generalize g.edges.length = n4 at *
  have hmk := fun W => make_ttt N (by omega) W
  go_enter Tryz.func6, Tryz.ntmps6
  go_wp2_with fail
  refine gen_c (fun W2 => Hid (Below w.heap.size w W2) ∧ Hid (rowOf W2 w.heap.size = some #[.slice p1 n1 c1, .slice p2 n2 c2, .slice p3 N c3, .slice p4 n4 c4])) ⟨Lib.hid ((Below.refl _ _).alloc (Nat.le_refl _) _), Lib.hid (row_new rfl)⟩ ?_
  rintro w2 ⟨HB2, HX2⟩
  refine (HC.out _ HB2.out).mono ?_
  rintro e w3 ⟨⟨b0, rfl⟩, hb⟩
  have HB3 := Lib.hid (bstep HB2.out hb HB2.out.size)
  have HX3 := Lib.hid (rowOf_below HX2.out hb (rowOf_lt HX2.out))
  have g_2 : w3.cell? ⟨w.heap.size, 2, none⟩ = some (.slice p3 N c3) := rowOf_cell HX3.out 2
  clear hb HB2 HX2 HC
  go_upto_region 5 with (fail)
  refine gen_world (fun W2 => Hid (TabS low N W2 w3.heap.size (List.replicate N ⟨none, 0, 0⟩) 0) ∧ Hid (Below w3.heap.size w3 W2)) ⟨⟨heap_alloc_new w3 _, List.length_replicate, fun n hn => by omega⟩, Lib.hid ((Below.refl _ _).alloc (Nat.le_refl _) _)⟩ ?_
  rintro w4 ⟨HT4, HB4⟩
  clear g_2 hmk
  go_wp2
  go_loopg [20] N (fun gg iv wr => ∃ (k : Nat) (tl : List SV), k ≤ N ∧ N - k ≤ gg ∧ iv = .int .i64 (k : Int) ∧ Hid (TabS low N wr w3.heap.size tl k) ∧ Hid (Below w3.heap.size w3 wr))
  case atStart => exact ⟨0, _, Nat.zero_le _, by omega, rfl, HT4.out, HB4.out⟩
  case round =>
    clear HT4 HB4
    obtain ⟨k, tl, hkN, hgg, rfl, HT, HB⟩ := hrel
    by_cases hlt : k < N
    · have hlz : (k : Int) < (N : Int) := by omega
      have gr := rowOf_below HX3.out HB.out (rowOf_lt HX3.out)
      have g_0 := (rowOf_cell gr 0 : _ = some (Value.slice p1 n1 c1))
      have g_1 := (rowOf_cell gr 1 : _ = some (Value.slice p2 n2 c2))
      have g_2 := (rowOf_cell gr 2 : _ = some (Value.slice p3 N c3))
      have g_3 := (rowOf_cell gr 3 : _ = some (Value.slice p4 n4 c4))
      have HBw := Lib.hid (bstep HB3.out HB.out HB3.out.size)
      have HRk := Lib.hid (HR.out k hlt wr HBw.out)
      have HLk := HL.out k hlt
      have hbt : w3.heap.size < wr.heap.size := HT.out.lt
      clear gr
      go_wp2_with fail
      refine (HRk.out).mono ?_
      rintro e w5 ⟨blk, svs, rows, rfl, ho, hl, hp, hb⟩
      rw [HLk] at hl hp
      rw [HLk]
      have HT5 := Lib.hid (HT.out.below hb)
      have HO5 : Hid (OHH (w3.heap.size + 1) w5 blk svs rows) := ho.lower hbt
      have HB5 := Lib.hid (bstep HB.out hb HB.out.size)
      have hc5 := HT5.out.cell k hlt
      have hf5 := HT5.out.frozen k
      have HP5 := Lib.hid (HT5.out.put hlt HO5.out hl hp)
      have HB6 : Hid (Below w3.heap.size w3 (w5.setCell ⟨w3.heap.size, k, none⟩ (.slice (some ⟨blk, 0, none⟩) N N))) := HB5.out.setCell (Nat.le_refl _) _
      clear ho hl hp hb HT HRk HLk g_0 g_1 g_2 g_3
      generalize tl[k]! = sv at *
      obtain ⟨qs, ns, cs⟩ := sv
      go_wp2
      go_roundg (N - (k + 1))
      case measure => omega
      case rel => exact ⟨k + 1, _, hlt, Nat.le_refl _, by go_num, HP5.out, HB6.out⟩
    · have hlz : ¬ (k : Int) < (N : Int) := by omega
      obtain rfl : k = N := by omega
      have HBw := Lib.hid (bstep HB3.out HB.out HB3.out.size)
      go_wp2
      go_returns
      exact ⟨w3.heap.size, tl, rfl, HT.out, HB3.out.size, HBw.out⟩
end Go.Proofs.YtjaahmgokiobjaaGreat
/- the program's Apply on steps: the whole walk -/
namespace Go.Proofs.YtjaahmgokiobjaaGreat
open Go.RowKit
set_option linter.unusedVariables false
set_option linter.unusedSimpArgs false
attribute [local go_sem ↓] loadH loadT storeH storeT
attribute [local simp] size_setRow
attribute [local go_sem] rowAt_head rowOf_alloc_at rowOf_alloc_past rowOf_drew rowOf_drewN rowOf_setRow_same rowOf_setRow_other rowOf_setCell_same rowOf_setCell_other size_setRow setRow_drew setRow_alloc_at setRow_alloc_past one_int one_bool cell_setRow_same cell_setRow_other frozen_setRow_same frozen_setRow_other
attribute [local go_sem ↓] run_imin

def TV.pre (T : TV) (i : Int) : TV := ⟨T.d, if 0 < i then T.c0 else 0, if 1 < i then T.c1 else 0, if 2 < i then T.c2 else 0, if 3 < i then T.c3 else 0⟩
theorem tv_eq {x y : TV} (h0 : x.d = y.d) (h1 : x.c0 = y.c0) (h2 : x.c1 = y.c1) (h3 : x.c2 = y.c2) (h4 : x.c3 = y.c3) : x = y := by
  cases x; cases y; simp only at *; subst h0; subst h1; subst h2; subst h3; subst h4; rfl
def TV.tidy (T : TV) : Prop := (T.d ≤ 0 → T.c0 = 0) ∧ (T.d ≤ 1 → T.c1 = 0) ∧ (T.d ≤ 2 → T.c2 = 0) ∧ (T.d ≤ 3 → T.c3 = 0)
theorem tpre_all {T : TV} (h : T.tidy) {i : Int} (hi : T.d ≤ i) : T.pre i = T := by
  obtain ⟨h0, h1, h2, h3⟩ := h
  refine tv_eq rfl ?_ ?_ ?_ ?_ <;> simp only [TV.pre] <;> split <;> omega
theorem tpre_none (T : TV) : T.pre 0 = ⟨T.d, 0, 0, 0, 0⟩ := rfl
theorem tpre_set (T : TV) {j : Nat} (hj : j < 4) : (tvRow (T.pre j)).setIfInBounds (1 + j) (.int .i64 (T.coord j)) = tvRow (T.pre ((j : Int) + 1)) := by
  have : j = 0 ∨ j = 1 ∨ j = 2 ∨ j = 3 := by omega
  rcases this with rfl | rfl | rfl | rfl <;> rfl
theorem tv_cell {W : World} {b : Nat} {t : TV} (e : rowOf W b = some (tvRow t)) (j : Nat) (hj : j < 4) : W.cell? ⟨b, 1 + j, none⟩ = some (.int .i64 (t.coord j)) := by
  rw [rowOf_cell e]
  have : j = 0 ∨ j = 1 ∨ j = 2 ∨ j = 3 := by omega
  rcases this with rfl | rfl | rfl | rfl <;> rfl
theorem tidy_out (h : HV) (t : TV) : (outT h t).tidy ∨ ¬ h.right := by
  by_cases r : h.right
  · have s := right_size r
    refine .inl ⟨?_, ?_, ?_, ?_⟩ <;> simp only [outT] <;> intro q <;> unfold outC <;> rw [if_neg (by omega), if_neg (by omega)]
  · exact .inr r
theorem T0.startT {w : World} (pa pb pr : Array Value) (ta tb tr : TypeId) : T0 w (((w.alloc (.cells pa ta)).alloc (.cells pb tb)).alloc (.cells pr tr)) pa pb pr := T0.start pa pb pr ta tb tr
set_option maxRecDepth 100000 in
set_option maxHeartbeats 16000000 in
theorem japply_no1 (h : HV) (t : TV) (h1 : h.rightB = false) (w : World) :
    Calls Tryz.prog 19 #[h.val, t.val] w (Ret (.tuple #[TV.zero.val, .bool false]) w) := by
  have HA : Hid (∀ W, Calls Tryz.prog 40 #[(HV.val h)] W (Ret (.bool false) W)) := fun W => jright_is h1 W
  clear h1
  go_enter Tryz.func19, Tryz.ntmps19
  generalize hQ : bodyPost _ _ _ = Q0
  have HQ := Lib.hid hQ
  clear hQ
  have HT := Lib.hid (T0.start (w := w) (hvRow h) (tvRow t) (tvRow TV.zero) 55 29 29)
  go_wp2_with fail
  refine (HA.out _).mono ?_
  rintro e w2 ⟨rfl, hb⟩
  have HT2 := Lib.hid (HT.out.below hb)
  clear hb HT HA
  have N_p := HT2.out.a
  have L_p := rowOf_lt N_p
  have D_p := Nat.ne_of_lt L_p
  have N_q := HT2.out.b
  have L_q := rowOf_lt N_q
  have D_q := Nat.ne_of_lt L_q
  have N_r := HT2.out.r
  have L_r := rowOf_lt N_r
  have D_r := Nat.ne_of_lt L_r
  go_wp2
  rw [← HQ.out]
  exact bodyPost_ret (v := .tuple #[TV.zero.val, .bool false]) (by simp [results, Tryz.results19, go_sem, N_r, L_r, D_r, TV.zero]) rfl ⟨rfl, by first | exact (HT2.out.setR _).B | exact HT2.out.B⟩
set_option maxRecDepth 100000 in
set_option maxHeartbeats 16000000 in
theorem japply_no2 (h : HV) (t : TV) (h1 : h.rightB = true) (h2 : t.rightB = false) (w : World) :
    Calls Tryz.prog 19 #[h.val, t.val] w (Ret (.tuple #[TV.zero.val, .bool false]) w) := by
  have HA : Hid (∀ W, Calls Tryz.prog 40 #[(HV.val h)] W (Ret (.bool true) W)) := fun W => jright_is h1 W
  have HB : Hid (∀ W, Calls Tryz.prog 41 #[(TV.val t)] W (Ret (.bool false) W)) := fun W => jtright_is h2 W
  clear h1 h2
  go_enter Tryz.func19, Tryz.ntmps19
  generalize hQ : bodyPost _ _ _ = Q0
  have HQ := Lib.hid hQ
  clear hQ
  have HT := Lib.hid (T0.start (w := w) (hvRow h) (tvRow t) (tvRow TV.zero) 55 29 29)
  go_wp2_with fail
  refine (HA.out _).mono ?_
  rintro e w2 ⟨rfl, hb⟩
  have HT2 := Lib.hid (HT.out.below hb)
  clear hb HT HA
  have N_p := HT2.out.a
  have L_p := rowOf_lt N_p
  have D_p := Nat.ne_of_lt L_p
  have N_q := HT2.out.b
  have L_q := rowOf_lt N_q
  have D_q := Nat.ne_of_lt L_q
  have N_r := HT2.out.r
  have L_r := rowOf_lt N_r
  have D_r := Nat.ne_of_lt L_r
  go_wp2_with fail
  refine (HB.out _).mono ?_
  rintro e w3 ⟨rfl, hb⟩
  have HT3 := Lib.hid (HT2.out.below hb)
  clear hb HT2 HB
  clear N_p L_p D_p N_q L_q D_q N_r L_r D_r
  have N_p := HT3.out.a
  have L_p := rowOf_lt N_p
  have D_p := Nat.ne_of_lt L_p
  have N_q := HT3.out.b
  have L_q := rowOf_lt N_q
  have D_q := Nat.ne_of_lt L_q
  have N_r := HT3.out.r
  have L_r := rowOf_lt N_r
  have D_r := Nat.ne_of_lt L_r
  go_wp2
  rw [← HQ.out]
  exact bodyPost_ret (v := .tuple #[TV.zero.val, .bool false]) (by simp [results, Tryz.results19, go_sem, N_r, L_r, D_r, TV.zero]) rfl ⟨rfl, by first | exact (HT3.out.setR _).B | exact HT3.out.B⟩
set_option maxRecDepth 100000 in
set_option maxHeartbeats 16000000 in
theorem japply_no3 (h : HV) (t : TV) (h1 : h.rightB = true) (h2 : t.rightB = true) (h3 : (t.d != h.f) = true) (w : World) :
    Calls Tryz.prog 19 #[h.val, t.val] w (Ret (.tuple #[TV.zero.val, .bool false]) w) := by
  have HA : Hid (∀ W, Calls Tryz.prog 40 #[(HV.val h)] W (Ret (.bool true) W)) := fun W => jright_is h1 W
  have HB : Hid (∀ W, Calls Tryz.prog 41 #[(TV.val t)] W (Ret (.bool true) W)) := fun W => jtright_is h2 W
  clear h1 h2
  go_enter Tryz.func19, Tryz.ntmps19
  generalize hQ : bodyPost _ _ _ = Q0
  have HQ := Lib.hid hQ
  clear hQ
  have HT := Lib.hid (T0.start (w := w) (hvRow h) (tvRow t) (tvRow TV.zero) 55 29 29)
  go_wp2_with fail
  refine (HA.out _).mono ?_
  rintro e w2 ⟨rfl, hb⟩
  have HT2 := Lib.hid (HT.out.below hb)
  clear hb HT HA
  have N_p := HT2.out.a
  have L_p := rowOf_lt N_p
  have D_p := Nat.ne_of_lt L_p
  have N_q := HT2.out.b
  have L_q := rowOf_lt N_q
  have D_q := Nat.ne_of_lt L_q
  have N_r := HT2.out.r
  have L_r := rowOf_lt N_r
  have D_r := Nat.ne_of_lt L_r
  go_wp2_with fail
  refine (HB.out _).mono ?_
  rintro e w3 ⟨rfl, hb⟩
  have HT3 := Lib.hid (HT2.out.below hb)
  clear hb HT2 HB
  clear N_p L_p D_p N_q L_q D_q N_r L_r D_r
  have N_p := HT3.out.a
  have L_p := rowOf_lt N_p
  have D_p := Nat.ne_of_lt L_p
  have N_q := HT3.out.b
  have L_q := rowOf_lt N_q
  have D_q := Nat.ne_of_lt L_q
  have N_r := HT3.out.r
  have L_r := rowOf_lt N_r
  have D_r := Nat.ne_of_lt L_r
  have p_0 : w3.cell? ⟨w.heap.size, 0, none⟩ = some (.int .i64 h.f) := rowOf_cell N_p 0
  have q_0 : w3.cell? ⟨w.heap.size + 1, 0, none⟩ = some (.int .i64 t.d) := rowOf_cell N_q 0
  go_wp2
  rw [← HQ.out]
  exact bodyPost_ret (v := .tuple #[TV.zero.val, .bool false]) (by simp [results, Tryz.results19, go_sem, N_r, L_r, D_r, TV.zero]) rfl ⟨rfl, by first | exact (HT3.out.setR _).B | exact HT3.out.B⟩
set_option maxRecDepth 100000 in
set_option maxHeartbeats 16000000 in
theorem japply_yes (h : HV) (t : TV) (h1 : h.rightB = true) (h2 : t.rightB = true) (hd : t.d = h.f) (w : World) :
    Calls Tryz.prog 19 #[h.val, t.val] w (Ret (.tuple #[(TV.gate (outT h t).rightB (outT h t)).val, .bool (outT h t).rightB]) w) := by
  have hr := shape_of h1
  have sz := right_size hr
  have h3 : (t.d != h.f) = false := by simpa using hd
  obtain ⟨g, hg⟩ : ∃ g, h.k + h.t = g := ⟨_, rfl⟩
  have GA : Hid (∀ W, Calls Tryz.prog 42 #[(HV.val h)] W (Ret (.int .i64 g) W)) := fun W => jgives_is h h1 hg W
  have AB : Hid (∀ (i : Int), 0 ≤ i → i < g → ∀ W, Calls Tryz.prog 43 #[(HV.val h), .int .i64 i] W (Ret (.tuple #[.int .i64 (h.at i), .bool (decide (i < h.k))]) W)) := fun i h0 hi W => jat_is h h1 i h0 (by omega) rfl rfl W
  have HNb : Hid (∀ i, 0 ≤ h.at i ∧ h.at i ≤ 1048576) := fun i => at_bound hr i
  have HNt : Hid (∀ i, 0 ≤ t.coord i ∧ t.coord i ≤ 1048576) := fun i => by
    have q := right_bound (d := t.d) (c0 := t.c0) (c1 := t.c1) (c2 := t.c2) (c3 := t.c3) h2
    unfold TV.coord
    repeat' split
    · exact q.1
    · exact q.2.1
    · exact q.2.2.1
    · exact q.2.2.2
  have HTd : Hid ((outT h t).tidy) := (tidy_out h t).resolve_right (fun n => n hr)
  have HAt : Hid (∀ j : Nat, (j : Int) < g → (outT h t).coord j = if (j : Int) < h.k then h.at j + t.coord j else h.at j) := fun j hj => by
    have e := coord_out h t
    have o := outC_at h t j
    rw [if_pos (show (j : Int) < h.k + h.t by omega)] at o
    rw [← o]
    have : j = 0 ∨ j = 1 ∨ j = 2 ∨ j = 3 := by omega
    rcases this with rfl | rfl | rfl | rfl
    · exact e.1
    · exact e.2.1
    · exact e.2.2.1
    · exact e.2.2.2
  have HIF : Hid (∀ W, Calls Tryz.prog 41 #[TV.val (outT h t)] W (Ret (.bool (outT h t).rightB) W)) := fun W => jtright_is rfl W
  have HP0 : Hid (tvRow ((outT h t).pre 0) = #[.int .i64 g, .int .i64 0, .int .i64 0, .int .i64 0, .int .i64 0]) := by
    rw [tpre_none]; exact congrArg (fun z => (#[Value.int .i64 z, .int .i64 0, .int .i64 0, .int .i64 0, .int .i64 0] : Array Value)) hg
  have HRg : Hid ((outT h t).d = g) := hg
  have g4 : g ≤ 4 := by omega
  have g1 : 1 ≤ g := by omega
  clear hr sz hg hd
  have HA : Hid (∀ W, Calls Tryz.prog 40 #[(HV.val h)] W (Ret (.bool true) W)) := fun W => jright_is h1 W
  have HB : Hid (∀ W, Calls Tryz.prog 41 #[(TV.val t)] W (Ret (.bool true) W)) := fun W => jtright_is h2 W
  clear h1 h2
  generalize outT h t = R at *
  go_enter Tryz.func19, Tryz.ntmps19
  generalize hQ : bodyPost _ _ _ = Q0
  have HQ := Lib.hid hQ
  clear hQ
  have HT := Lib.hid (T0.start (w := w) (hvRow h) (tvRow t) (tvRow TV.zero) 55 29 29)
  go_wp2_with fail
  refine (HA.out _).mono ?_
  rintro e w2 ⟨rfl, hb⟩
  have HT2 := Lib.hid (HT.out.below hb)
  clear hb HT HA
  have N_p := HT2.out.a
  have L_p := rowOf_lt N_p
  have D_p := Nat.ne_of_lt L_p
  have N_q := HT2.out.b
  have L_q := rowOf_lt N_q
  have D_q := Nat.ne_of_lt L_q
  have N_r := HT2.out.r
  have L_r := rowOf_lt N_r
  have D_r := Nat.ne_of_lt L_r
  go_wp2_with fail
  refine (HB.out _).mono ?_
  rintro e w3 ⟨rfl, hb⟩
  have HT3 := Lib.hid (HT2.out.below hb)
  clear hb HT2 HB
  clear N_p L_p D_p N_q L_q D_q N_r L_r D_r
  have N_p := HT3.out.a
  have L_p := rowOf_lt N_p
  have D_p := Nat.ne_of_lt L_p
  have N_q := HT3.out.b
  have L_q := rowOf_lt N_q
  have D_q := Nat.ne_of_lt L_q
  have N_r := HT3.out.r
  have L_r := rowOf_lt N_r
  have D_r := Nat.ne_of_lt L_r
  have p_0 : w3.cell? ⟨w.heap.size, 0, none⟩ = some (.int .i64 h.f) := rowOf_cell N_p 0
  have q_0 : w3.cell? ⟨w.heap.size + 1, 0, none⟩ = some (.int .i64 t.d) := rowOf_cell N_q 0
  go_wp2_with fail
  clear p_0 q_0
  go_wp2_with fail
  refine (GA.out _).mono ?_
  rintro e w4 ⟨rfl, hb⟩
  have HT4 := Lib.hid (HT3.out.below hb)
  clear hb HT3 GA
  clear N_p L_p D_p N_q L_q D_q N_r L_r D_r
  have N_p := HT4.out.a
  have L_p := rowOf_lt N_p
  have D_p := Nat.ne_of_lt L_p
  have N_q := HT4.out.b
  have L_q := rowOf_lt N_q
  have D_q := Nat.ne_of_lt L_q
  have N_r := HT4.out.r
  have L_r := rowOf_lt N_r
  have D_r := Nat.ne_of_lt L_r
  go_wp2_with fail
  refine gen_world (fun W2 => Hid (TI w W2 w4.heap.size (hvRow h) (tvRow t) (tvRow TV.zero) (tvRow (R.pre 0)))) (by rw [HP0.out]; exact Lib.hid (HT4.out.box _ _)) ?_
  clear N_p L_p D_p N_q L_q D_q N_r L_r D_r
  generalize w4.heap.size = bx
  rintro w5 HT5
  clear HT4 HP0
  have x_0 : w5.cell? ⟨bx, 0, none⟩ = some (.int .i64 g) := by rw [rowOf_cell HT5.out.x]; exact congrArg (fun z => some (Value.int .i64 z)) HRg.out
  go_wp2_with fail
  clear x_0
  go_loopg [31] g.toNat (fun gg i wr => ∃ k : Nat, i = .int .i64 (k : Int) ∧ (k : Int) ≤ g ∧ g.toNat - k ≤ gg ∧ Hid (TI w wr bx (hvRow h) (tvRow t) (tvRow TV.zero) (tvRow (R.pre (k : Int)))))
  case atStart => exact ⟨0, rfl, by omega, by omega, HT5.out⟩
  case round =>
    clear HT5
    obtain ⟨k, rfl, kg, hgg, HT⟩ := hrel
    have N_p := HT.out.a
    have L_p := rowOf_lt N_p
    have D_p := Nat.ne_of_lt L_p
    have N_q := HT.out.b
    have L_q := rowOf_lt N_q
    have D_q := Nat.ne_of_lt L_q
    have N_r := HT.out.r
    have L_r := rowOf_lt N_r
    have D_r := Nat.ne_of_lt L_r
    have N_x := HT.out.x
    have L_x := rowOf_lt N_x
    have D_x := Nat.ne_of_lt L_x
    by_cases hlt : (k : Int) < g
    · have HC := Lib.hid (AB.out k (by omega) hlt)
      have hX := HAt.out k hlt
      obtain ⟨B0, B1⟩ := HNb.out k
      obtain ⟨A0, A1⟩ := HNt.out k
      have HK := Lib.hid (tpre_set R (j := k) (by omega))
      generalize h.at k = B at *
      generalize hA : t.coord k = A at *
      generalize R.coord k = X at *
      clear HAt HNb HNt AB HIF HTd HQ
      go_wp2_with fail
      refine (HC.out _).mono ?_
      rintro e w6 ⟨rfl, hb⟩
      have HT6 := Lib.hid (HT.out.below hb)
      clear hb HT HC
      clear N_p L_p D_p N_q L_q D_q N_r L_r D_r N_x L_x D_x
      have N_p := HT6.out.a
      have L_p := rowOf_lt N_p
      have D_p := Nat.ne_of_lt L_p
      have N_q := HT6.out.b
      have L_q := rowOf_lt N_q
      have D_q := Nat.ne_of_lt L_q
      have N_r := HT6.out.r
      have L_r := rowOf_lt N_r
      have D_r := Nat.ne_of_lt L_r
      have N_x := HT6.out.x
      have L_x := rowOf_lt N_x
      have D_x := Nat.ne_of_lt L_x
      have y_c := tv_cell N_q k (by omega)
      rw [hA] at y_c
      have x_c := tv_cell N_x k (by omega)
      have x_f := rowOf_frozen N_x (1 + k)
      clear hA
      by_cases hkb : (k : Int) < h.k
      · rw [if_pos hkb] at hX
        subst hX
        have hwr : IntKind.i64.wrap (B + A) = B + A := by rw [IntKind.wrap_i64]; omega
        rw [show decide ((k : Int) < h.k) = true from decide_eq_true hkb]
        clear hkb
        go_wp2
        go_roundg (g.toNat - (k + 1))
        case measure => omega
        case rel => exact ⟨k + 1, by go_num, by omega, by omega, Lib.hid (HT6.out.set _ _ HK.out)⟩
      · rw [if_neg hkb] at hX
        subst hX
        rw [show decide ((k : Int) < h.k) = false from decide_eq_false hkb]
        clear hkb
        go_wp2
        go_roundg (g.toNat - (k + 1))
        case measure => omega
        case rel => exact ⟨k + 1, by go_num, by omega, by omega, Lib.hid (HT6.out.set _ _ HK.out)⟩
    · have hq := tpre_all HTd.out (i := (k : Int)) (by have := HRg.out; omega)
      rw [hq] at HT N_x
      clear hq HAt HNb HNt AB HTd HRg
      generalize hok : R.rightB = ok at *
      have HOK := Lib.hid hok
      clear hok
      go_wp2_with fail
      refine (HIF.out _).mono ?_
      rintro e w6 ⟨rfl, hb⟩
      have HT6 := Lib.hid (HT.out.below hb)
      clear hb HT HIF
      clear N_p L_p D_p N_q L_q D_q N_r L_r D_r N_x L_x D_x
      have N_p := HT6.out.a
      have L_p := rowOf_lt N_p
      have D_p := Nat.ne_of_lt L_p
      have N_q := HT6.out.b
      have L_q := rowOf_lt N_q
      have D_q := Nat.ne_of_lt L_q
      have N_r := HT6.out.r
      have L_r := rowOf_lt N_r
      have D_r := Nat.ne_of_lt L_r
      have N_x := HT6.out.x
      have L_x := rowOf_lt N_x
      have D_x := Nat.ne_of_lt L_x
      cases ok
      · go_wp2
        rw [← HQ.out]
        exact bodyPost_ret (v := .tuple #[(TV.gate false R).val, .bool false]) (by simp [results, Tryz.results19, go_sem, N_r, L_r, D_r, TV.gate, gate]) rfl ⟨rfl, by first | exact (HT6.out.setR _).B | exact HT6.out.B⟩
      · go_wp2
        rw [← HQ.out]
        exact bodyPost_ret (v := .tuple #[(TV.gate true R).val, .bool true]) (by simp [results, Tryz.results19, go_sem, N_r, L_r, D_r, TV.gate, gate]) rfl ⟨rfl, (HT6.out.setR _).B⟩
theorem japply_any (h : HV) (t : TV) (w : World) :
    Calls Tryz.prog 19 #[h.val, t.val] w (Ret (.tuple #[(applyT h t).val, .bool (applyOk h t)]) w) := by
  cases hy : (h.rightB && t.rightB && (t.d == h.f))
  · have hn : applyOk h t = false := by unfold applyOk; rw [hy]; rfl
    rw [show applyT h t = TV.zero by unfold applyT TV.gate; rw [hn]; rfl, hn]
    cases h1 : h.rightB
    · exact japply_no1 h t h1 w
    · cases h2 : t.rightB
      · exact japply_no2 h t h1 h2 w
      · rw [h1, h2] at hy
        exact japply_no3 h t h1 h2 (by simpa using hy) w
  · simp only [Bool.and_eq_true, beq_iff_eq] at hy
    have q := japply_yes h t hy.1.1 hy.1.2 hy.2 w
    have e : applyOk h t = (outT h t).rightB := by unfold applyOk; rw [hy.1.1, hy.1.2, hy.2]; simp
    unfold applyT
    rw [e]
    exact q
end Go.Proofs.YtjaahmgokiobjaaGreat
