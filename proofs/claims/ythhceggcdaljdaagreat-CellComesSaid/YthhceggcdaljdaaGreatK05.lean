/- the program's own take, needs, work -/
import Derived.Test.YthhceggcdaljdaaGreatK04
namespace Go.Proofs.YthhceggcdaljdaaGreat
open Go.RowKit
set_option linter.unusedVariables false
set_option linter.unusedSimpArgs false

set_option maxRecDepth 100000 in
set_option maxHeartbeats 4000000 in
theorem ptake0 {B bm : Nat} {rk rv : Int} {w : World} {pc : Int} {p : Option Addr} {m c : Nat} {ov : Value} {S : List Int} {O : List RV} (h : Mach B bm rk rv w pc (.slice p m c) ov S O) (hm : m ≤ 100) (hc : m ≤ c) (hp : p = none ∨ ∃ g, p = some ⟨g, 0, none⟩) :
    Calls Tryz.prog 275 #[.pointer (some ⟨bm, 0, none⟩), .int .i64 0] w (fun e w' => (∃ tv, e = .returned tv) ∧ w' = w.setCell ⟨bm, 3, none⟩ (.slice p m c)) := by
  have c3 : w.cell? ⟨bm, 3, none⟩ = some (.slice p m c) := rowOf_cell h.row 3
  have e3 := rowOf_frozen h.row 3
  have hA : (if c = 0 then p else Option.map (fun x => x.add 0) p) = p := by
    rcases hp with rfl | ⟨g, rfl⟩ <;> simp [Addr.add]
  clear h hp
  go_enter Tryz.func275, Tryz.ntmps275
  go_wp2
  go_returns
  exact ⟨⟨_, rfl⟩, rfl⟩
set_option maxRecDepth 100000 in
set_option maxHeartbeats 4000000 in
theorem ptake1 {B bm : Nat} {rk rv : Int} {w : World} {pc : Int} {g m c : Nat} {ov : Value} {S : List Int} {O : List RV} (h : Mach B bm rk rv w pc (.slice (some ⟨g, 0, none⟩) (m + 1) c) ov S O) (hm : m ≤ 100) (hc : m + 1 ≤ c) :
    Calls Tryz.prog 275 #[.pointer (some ⟨bm, 0, none⟩), .int .i64 1] w (fun e w' => e = .returned (.slice (some ⟨g, m, none⟩) 1 1) ∧ w' = w.setCell ⟨bm, 3, none⟩ (.slice (some ⟨g, 0, none⟩) m c)) := by
  have c3 : w.cell? ⟨bm, 3, none⟩ = some (.slice (some ⟨g, 0, none⟩) (m + 1) c) := rowOf_cell h.row 3
  have e3 := rowOf_frozen h.row 3
  clear h
  go_enter Tryz.func275, Tryz.ntmps275
  go_wp2
  go_returns
  exact ⟨rfl, rfl⟩
set_option maxRecDepth 100000 in
set_option maxHeartbeats 4000000 in
theorem ptake2 {B bm : Nat} {rk rv : Int} {w : World} {pc : Int} {g m c : Nat} {ov : Value} {S : List Int} {O : List RV} (h : Mach B bm rk rv w pc (.slice (some ⟨g, 0, none⟩) (m + 2) c) ov S O) (hm : m ≤ 100) (hc : m + 2 ≤ c) :
    Calls Tryz.prog 275 #[.pointer (some ⟨bm, 0, none⟩), .int .i64 2] w (fun e w' => e = .returned (.slice (some ⟨g, m, none⟩) 2 2) ∧ w' = w.setCell ⟨bm, 3, none⟩ (.slice (some ⟨g, 0, none⟩) m c)) := by
  have c3 : w.cell? ⟨bm, 3, none⟩ = some (.slice (some ⟨g, 0, none⟩) (m + 2) c) := rowOf_cell h.row 3
  have e3 := rowOf_frozen h.row 3
  have hs : m + 2 - m = 2 := by omega
  clear h
  go_enter Tryz.func275, Tryz.ntmps275
  go_wp2
  go_returns
  exact ⟨retV (show Value.slice (some ⟨g, m, none⟩) (m + 2 - m) (m + 2 - m) = _ by rw [hs]), rfl⟩
theorem takesN_ok {op : Int} (h : 1 ≤ op) (h2 : op ≤ 16) : takesN op ≤ 2 ∧ givesN op ≤ 2 := by
  unfold takesN givesN
  constructor <;> (repeat' split) <;> omega
set_option maxHeartbeats 8000000 in
theorem pneeds_any (op : Int) (h : 1 ≤ op) (h2 : op ≤ 16) (w : World) : Calls Tryz.prog 274 #[.int .i64 op] w (RetW (.tuple #[.int .i64 (takesN op : Int), .int .i64 (givesN op : Int)]) w) := by
  rcases (by omega : op = 1 ∨ op = 2 ∨ op = 3 ∨ op = 4 ∨ op = 5 ∨ op = 6 ∨ op = 7 ∨ op = 8 ∨ op = 9 ∨ op = 10 ∨ op = 11 ∨ op = 12 ∨ op = 13 ∨ op = 14 ∨ op = 15 ∨ op = 16) with rfl | rfl | rfl | rfl | rfl | rfl | rfl | rfl | rfl | rfl | rfl | rfl | rfl | rfl | rfl | rfl
  · show Calls _ _ _ _ (RetW (.tuple #[.int .i64 0, .int .i64 1]) w)
    go_enter Tryz.func274, Tryz.ntmps274
    go_wp2
    all_goals go_returns
    all_goals exact ⟨rfl, rfl⟩
  · show Calls _ _ _ _ (RetW (.tuple #[.int .i64 0, .int .i64 1]) w)
    go_enter Tryz.func274, Tryz.ntmps274
    go_wp2
    all_goals go_returns
    all_goals exact ⟨rfl, rfl⟩
  · show Calls _ _ _ _ (RetW (.tuple #[.int .i64 0, .int .i64 1]) w)
    go_enter Tryz.func274, Tryz.ntmps274
    go_wp2
    all_goals go_returns
    all_goals exact ⟨rfl, rfl⟩
  · show Calls _ _ _ _ (RetW (.tuple #[.int .i64 2, .int .i64 1]) w)
    go_enter Tryz.func274, Tryz.ntmps274
    go_wp2
    all_goals go_returns
    all_goals exact ⟨rfl, rfl⟩
  · show Calls _ _ _ _ (RetW (.tuple #[.int .i64 2, .int .i64 1]) w)
    go_enter Tryz.func274, Tryz.ntmps274
    go_wp2
    all_goals go_returns
    all_goals exact ⟨rfl, rfl⟩
  · show Calls _ _ _ _ (RetW (.tuple #[.int .i64 2, .int .i64 1]) w)
    go_enter Tryz.func274, Tryz.ntmps274
    go_wp2
    all_goals go_returns
    all_goals exact ⟨rfl, rfl⟩
  · show Calls _ _ _ _ (RetW (.tuple #[.int .i64 2, .int .i64 1]) w)
    go_enter Tryz.func274, Tryz.ntmps274
    go_wp2
    all_goals go_returns
    all_goals exact ⟨rfl, rfl⟩
  · show Calls _ _ _ _ (RetW (.tuple #[.int .i64 2, .int .i64 1]) w)
    go_enter Tryz.func274, Tryz.ntmps274
    go_wp2
    all_goals go_returns
    all_goals exact ⟨rfl, rfl⟩
  · show Calls _ _ _ _ (RetW (.tuple #[.int .i64 2, .int .i64 1]) w)
    go_enter Tryz.func274, Tryz.ntmps274
    go_wp2
    all_goals go_returns
    all_goals exact ⟨rfl, rfl⟩
  · show Calls _ _ _ _ (RetW (.tuple #[.int .i64 2, .int .i64 1]) w)
    go_enter Tryz.func274, Tryz.ntmps274
    go_wp2
    all_goals go_returns
    all_goals exact ⟨rfl, rfl⟩
  · show Calls _ _ _ _ (RetW (.tuple #[.int .i64 1, .int .i64 2]) w)
    go_enter Tryz.func274, Tryz.ntmps274
    go_wp2
    all_goals go_returns
    all_goals exact ⟨rfl, rfl⟩
  · show Calls _ _ _ _ (RetW (.tuple #[.int .i64 2, .int .i64 2]) w)
    go_enter Tryz.func274, Tryz.ntmps274
    go_wp2
    all_goals go_returns
    all_goals exact ⟨rfl, rfl⟩
  · show Calls _ _ _ _ (RetW (.tuple #[.int .i64 1, .int .i64 0]) w)
    go_enter Tryz.func274, Tryz.ntmps274
    go_wp2
    all_goals go_returns
    all_goals exact ⟨rfl, rfl⟩
  · show Calls _ _ _ _ (RetW (.tuple #[.int .i64 0, .int .i64 0]) w)
    go_enter Tryz.func274, Tryz.ntmps274
    go_wp2
    all_goals go_returns
    all_goals exact ⟨rfl, rfl⟩
  · show Calls _ _ _ _ (RetW (.tuple #[.int .i64 1, .int .i64 0]) w)
    go_enter Tryz.func274, Tryz.ntmps274
    go_wp2
    all_goals go_returns
    all_goals exact ⟨rfl, rfl⟩
  · show Calls _ _ _ _ (RetW (.tuple #[.int .i64 2, .int .i64 0]) w)
    go_enter Tryz.func274, Tryz.ntmps274
    go_wp2
    all_goals go_returns
    all_goals exact ⟨rfl, rfl⟩
theorem new6 (W : World) (z : Int) : R6.App (W.alloc (.cells #[.int .i64 z] 2)) (.slice (some ⟨W.heap.size, 0, none⟩) 1 1) [z] := RowKind.Row.app (ys := [z]) (RowKind.Row.new (R := R6) W z 2)
set_option maxRecDepth 100000 in
set_option maxHeartbeats 4000000 in
theorem pwork_any {B bm : Nat} {rk rv : Int} {w : World} {pc : Int} {sv ov : Value} {S : List Int} {O : List RV} (h : Mach B bm rk rv w pc sv ov S O) (op x y : Int) (h4 : 4 ≤ op) (h10 : op ≤ 10) (hx : inR x) (hy : inR y) (hlen : S.length + 1 ≤ 900000) :
    Calls Tryz.prog 278 #[.pointer (some ⟨bm, 0, none⟩), .int .i64 op, .int .i64 x, .int .i64 y] w (fun e w' => e = .returned (.int .i64 (ofN op x y).2) ∧ Below B w w' ∧ ((ofN op x y).2 = 0 → ∃ sv', Mach B bm rk rv w' pc sv' ov (S ++ [(ofN op x y).1]) O)) := by
  have HC := Lib.hid (preckon_any op x y h4 h10 hx hy w)
  generalize ofN op x y = res at *
  obtain ⟨z, ze⟩ := res
  have H := Lib.hid h
  have HLen := Lib.hid hlen
  show Calls _ _ _ _ (fun e w' => e = .returned (.int .i64 ze) ∧ Below B w w' ∧ (ze = 0 → ∃ sv', Mach B bm rk rv w' pc sv' ov (S ++ [z]) O))
  clear h hx hy h4 h10 hlen
  go_enter Tryz.func278, Tryz.ntmps278
  go_wp2_with fail
  refine (HC.out).mono ?_
  rintro e w1 ⟨rfl, nd, rfl⟩
  have H1 := Lib.hid (H.out.drewN nd)
  have HB1 := Lib.hid (below_drewN (Below.refl B w) nd)
  clear HC H
  generalize w.drewN nd = w1 at *
  by_cases hz : ze = 0
  · subst hz
    have HP := Lib.hid (pput_any (H1.out.alloc (.cells #[.int .i64 z] 2)) _ [z] (new6 w1 z) HLen.out)
    have HB2 := Lib.hid (HB1.out.alloc H1.out.size (.cells #[.int .i64 z] 2))
    clear H1 HB1
    go_wp2_with fail
    refine (HP.out).mono ?_
    rintro e w2 ⟨rfl, hb2, sv', hM⟩
    have HM := Lib.hid hM; have HB3 := Lib.hid (HB2.out.trans hb2)
    clear hM hb2 HP HB2
    go_wp2
    go_returns
    first | exact ⟨rfl, HB3.out, fun _ => ⟨_, HM.out⟩⟩ | exact ⟨rfl, HB3.out, ⟨_, HM.out⟩⟩
  · have hzb : (ze == 0) = false := by simpa using hz
    have HZ := Lib.hid hz
    clear hz
    go_wp2
    go_returns
    exact ⟨rfl, HB1.out, fun e => absurd e HZ.out⟩
end Go.Proofs.YthhceggcdaljdaaGreat
/- what holds behind take in the program's step -/
namespace Go.Proofs.YthhceggcdaljdaaGreat
open Go.RowKit
set_option linter.unusedVariables false
set_option linter.unusedSimpArgs false

theorem own_form {α : Type} {R : RowKind α} {B : Nat} {w : World} {p : Option Addr} {n c : Nat} {xs : List α} (h : R.Own B w (.slice p n c) xs) : n ≤ c ∧ (xs = [] ∧ p = none ∨ ∃ g, p = some ⟨g, 0, none⟩) := by
  obtain ⟨_, ⟨e, hn⟩ | ⟨g, cap, cur, e, _, _, hc, _⟩⟩ := h
  · simp only [Value.slice.injEq] at e
    obtain ⟨rfl, rfl, rfl⟩ := e
    exact ⟨Nat.le_refl _, .inl ⟨List.length_eq_zero_iff.1 hn, rfl⟩⟩
  · simp only [Value.slice.injEq] at e
    obtain ⟨rfl, rfl, rfl⟩ := e
    exact ⟨hc, .inr ⟨g, rfl⟩⟩
theorem own_at6 {B : Nat} {w : World} {g n c : Nat} {xs : List Int} (h : R6.Own B w (.slice (some ⟨g, 0, none⟩) n c) xs) (j : Nat) (hj : j < xs.length) : w.cell? ⟨g, j, none⟩ = some (.int .i64 xs[j]!) := by
  rcases h.is with ⟨rfl, _⟩ | ⟨_, b, off, d, e, _, hr⟩
  · simp at hj
  · simp only [Value.slice.injEq, Option.some.injEq, Addr.mk.injEq] at e
    obtain ⟨⟨rfl, rfl, _⟩, _, _⟩ := e
    have := at6 hr j hj
    rw [Nat.zero_add] at this
    exact this
theorem Mach.drew {B bm : Nat} {rk rv : Int} {w : World} {pc : Int} {sv ov : Value} {S : List Int} {O : List RV} (h : Mach B bm rk rv w pc sv ov S O) : Mach B bm rk rv w.drew pc sv ov S O := ⟨h.box, h.hB, h.st, h.out⟩
/-- behind take: the machine, the instruction's box, the numbers that were on the stack -/
structure Taken (B bm : Nat) (rk rv op nn : Int) (w w3 : World) (k : Nat) (p : Option Addr) (m c : Nat) (ov : Value) (S : List Int) (O : List RV) : Prop where
  m : Mach B bm rk rv w3 ((k : Int) + 1) (.slice p m c) ov (S.take m) O
  hb : Below B w w3
  x : rowOf w3 w.heap.size = some #[.int .i64 op, .int .i64 nn]
  cells : ∀ g, p = some ⟨g, 0, none⟩ → ∀ j, j < S.length → w3.cell? ⟨g, j, none⟩ = some (.int .i64 S[j]!)
theorem taken_of {B bm : Nat} {rk rv op nn : Int} {w w3 : World} {k : Nat} {p : Option Addr} {n c : Nat} {ov : Value} {S : List Int} {O : List RV} (h : Mach B bm rk rv w (k : Int) (.slice p n c) ov S O) (m : Nat) (hm : m ≤ n)
    (hw : w3 = ((w.setCell ⟨bm, 2, none⟩ (.int .i64 ((k : Int) + 1))).alloc (.cells #[.int .i64 op, .int .i64 nn] 228)).setCell ⟨bm, 3, none⟩ (.slice p m c)) : Taken B bm rk rv op nn w w3 k p m c ov S O := by
  have h1 := h.setPc ((k : Int) + 1)
  have h2 := h1.alloc (.cells #[.int .i64 op, .int .i64 nn] 228)
  have hp := h2.st.part m hm
  have h3 := h2.setSt hp
  have hne : w.heap.size ≠ bm := Nat.ne_of_gt h.lt
  subst hw
  refine ⟨h3, ?_, ?_, fun g hg j hj => ?_⟩
  · exact (((Below.refl B w).setCell (p := ⟨bm, 2, none⟩) h.hB _).alloc h1.size _).setCell (p := ⟨bm, 3, none⟩) h.hB _
  · exact (rowOf_setCell_other _ _ _ hne).trans (rowOf_alloc_at _ _ _ (by simp))
  · subst hg
    exact own_at6 (h2.keep (by decide) h2.st 3 _) j hj
/-- what the program's step answers -/
def StepR (B bm : Nat) (rk rv : Int) (w : World) (st : Int × List Int × List RV × Nat) (e : Ending) (w' : World) : Prop :=
  e = .returned (.int .i64 st.1) ∧ Below B w w' ∧ (st.1 = 0 → ∃ sv' ov', Mach B bm rk rv w' ((st.2.2.2 : Nat) : Int) sv' ov' st.2.1 st.2.2.1)
/-- append to a slice without room: a new row -/
theorem RowKind.grow1 {α : Type} [Inhabited α] {R : RowKind α} {ops : Array Oper} {rest : List Oper} {o : Oper} {a : Act} {Q : Exit → Act → World → Prop} {w : World} (hgd : o.guard = none) (s x : Operand)
    (ho : o.op = .call { callee := .builtin .append, args := #[s, x], argTypes := #[R.tS, R.tS] }) {b : Addr} {c : Nat} {vx : Value} {xs ys : List α} (hs : a.eval s = .slice (some b) xs.length c)
    (hxs : ∀ j u, (R.cells xs)[j]? = some u → w.cell? (b.add j) = some u) (hx : a.eval x = vx) (hz : R.App w vx ys) (hfull : c < xs.length + ys.length) (hlen : xs.length + ys.length ≤ 900000)
    (h : ∀ v' w', R.Own w.heap.size w' v' (xs ++ ys) → Below w.heap.size w w' → wpList Tryz.prog ops Q rest (a.put o.dst v') w') : wpList Tryz.prog ops Q (o :: rest) a w := by
  obtain ⟨i0, hi, hz0, hz1, hz2⟩ := info_parts R.info
  obtain ⟨ad, c2, rfl, hc⟩ := hz
  refine wpList_append_grows w hgd s x R.tS ho R.tE i0 R.zero R.k R.bytes R.under hi hz0 hz1 hz2 R.zlen R.k0 (some b) xs.length c (R.cells xs) hs (fun e => by cases e) (R.cells_len xs) (fun b' e j u hj => by obtain rfl := Option.some.inj e; exact hxs j u hj) ad ys.length c2 (R.cells ys) hx (R.cells_len ys) hc one_cells hfull ?_ (byt_ok (by omega)) ?_
  · unfold maxLen; omega
  · intro v' w' h1 h2
    refine h v' w' ?_ ⟨h2.os, h2.tape, h2.output, h2.size, fun k hk => h2.block k hk (fun e => by cases e)⟩
    unfold Own
    rw [R.cells_append, List.length_append]
    exact h1
theorem new62 (W : World) (y z : Int) : R6.App (W.alloc (.cells #[.int .i64 y, .int .i64 z] 2)) (.slice (some ⟨W.heap.size, 0, none⟩) 2 2) [y, z] := RowKind.Row.app (ys := [y, z]) (RowKind.Row.litL (R := R6) W [y, z] 2)
theorem own_app {B : Nat} {w : World} {v : Value} {y z : Int} (h : R6.Own B w v [y, z]) : R6.App w v [y, z] := by
  rcases h.is with ⟨e, _⟩ | ⟨_, b, off, d, rfl, _, hr⟩
  · cases e
  · exact RowKind.Row.app hr
end Go.Proofs.YthhceggcdaljdaaGreat
