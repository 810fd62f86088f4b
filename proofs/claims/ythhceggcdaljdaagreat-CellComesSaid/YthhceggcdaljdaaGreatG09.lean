/- the program's: whether a slot is empty, is right; whether a cell is right -/
import Derived.Test.YthhceggcdaljdaaGreatG07
import Derived.Test.YthhceggcdaljdaaGreatG08
import Derived.Test.YthhceggcdaljdaaGreatG03
import Derived.Deep.CutRange
import Derived.Test.YthhceggcdaljdaaGreatG02
import Derived.Test.YthhceggcdaljdaaGreatG06
import Derived.Laws.OwnMore
namespace Go.Proofs.YthhceggcdaljdaaGreat
open Go.RowKit
set_option linter.unusedVariables false
set_option linter.unusedSimpArgs false

set_option maxRecDepth 100000 in
set_option maxHeartbeats 4000000 in
/-- a slot by value: is nothing there? -/
theorem pempty_any (x : SW) (w : World) : Calls Tryz.prog 90 #[SW.val x] w (Ret (.bool (decide (x.n0 = 0) && (decide (x.n1 = 0) && decide (x.n2 = 0)))) w) := by
  obtain ⟨⟨td, t0, t1, t2, t3⟩, p0, n0, c0, p1, n1, c1, p2, n2, c2, xd, xf⟩ := x
  dsimp only
  have HB := Lib.hid ((Below.refl w.heap.size w).alloc (Nat.le_refl _) (.cells #[.int .i64 td, .int .i64 t0, .int .i64 t1, .int .i64 t2, .int .i64 t3, .slice p0 n0 c0, .slice p1 n1 c1, .slice p2 n2 c2, .bool xd, .bool xf] 40))
  by_cases h0 : n0 = 0
  · subst h0
    by_cases h1 : n1 = 0
    · subst h1
      by_cases h2 : n2 = 0
      · subst h2
        go_enter Tryz.func90, Tryz.ntmps90
        go_wp2
        go_returns
        exact ⟨rfl, HB.out⟩
      · have d2 : ((n2 : Int) == 0) = false := by simp; omega
        go_enter Tryz.func90, Tryz.ntmps90
        go_wp2
        go_returns
        exact ⟨by simp [h2], HB.out⟩
    · have d1 : ((n1 : Int) == 0) = false := by simp; omega
      go_enter Tryz.func90, Tryz.ntmps90
      go_wp2
      go_returns
      exact ⟨by simp [h1], HB.out⟩
  · have d0 : ((n0 : Int) == 0) = false := by simp; omega
    go_enter Tryz.func90, Tryz.ntmps90
    go_wp2
    go_returns
    exact ⟨by simp [h0], HB.out⟩
theorem isSl.emptyB {w : World} {x : SW} {b : SV} (h : isSl w x b) : (decide (x.n0 = 0) && (decide (x.n1 = 0) && decide (x.n2 = 0))) = b.empty := by
  unfold SV.empty
  rw [h.n0, h.n1, h.n2]
  cases b.a <;> cases b.b <;> cases b.s <;> simp
set_option maxRecDepth 100000 in
set_option maxHeartbeats 8000000 in
theorem pslotRight_any (x : SW) (b : SV) (w : World) (h : isSl w x b) (h0 : b.a.length ≤ 900000) (h1 : b.b.length ≤ 900000) (h2 : b.s.length ≤ 900000) : Calls Tryz.prog 57 #[SW.val x] w (Ret (.bool (okS b)) w) := by
  have HT := Lib.hid (fun W => ok_any x.t W)
  have HA := Lib.hid (fun W (hW : Below w.heap.size w W) => bright_any b.a _ W h0 (h.l0.below hW))
  have HB := Lib.hid (fun W (hW : Below w.heap.size w W) => bright_any b.b _ W h1 (h.l1.below hW))
  have HS := Lib.hid (fun W (hW : Below w.heap.size w W) => bright_any b.s _ W h2 (h.l2.below hW))
  have HE := Lib.hid (fun W => pempty_any x W)
  rw [h.emptyB] at HE
  have HR : Hid (okS b = (b.t.ok && (!b.empty && (rightI b.a && (rightI b.b && rightI b.s))))) := rfl
  rw [← h.t] at HR
  generalize okS b = res at *
  generalize b.empty = e at *
  generalize rightI b.a = ra at *
  generalize rightI b.b = rb at *
  generalize rightI b.s = rs at *
  clear h0 h1 h2 h
  obtain ⟨⟨td, t0, t1, t2, t3⟩, p0, n0, c0, p1, n1, c1, p2, n2, c2, xd, xf⟩ := x
  dsimp only at HT HA HB HS HE HR ⊢
  generalize TV.ok ⟨td, t0, t1, t2, t3⟩ = o at *
  have HBx := Lib.hid ((Below.refl w.heap.size w).alloc (Nat.le_refl _) (.cells #[.int .i64 td, .int .i64 t0, .int .i64 t1, .int .i64 t2, .int .i64 t3, .slice p0 n0 c0, .slice p1 n1 c1, .slice p2 n2 c2, .bool xd, .bool xf] 40))
  have HX := Lib.hid (Boxed.new w #[.int .i64 td, .int .i64 t0, .int .i64 t1, .int .i64 t2, .int .i64 t3, .slice p0 n0 c0, .slice p1 n1 c1, .slice p2 n2 c2, .bool xd, .bool xf] 40)
  go_enter Tryz.func57, Tryz.ntmps57
  go_upto_region 1 with (fail)
  generalize w.alloc (.cells #[.int .i64 td, .int .i64 t0, .int .i64 t1, .int .i64 t2, .int .i64 t3, .slice p0 n0 c0, .slice p1 n1 c1, .slice p2 n2 c2, .bool xd, .bool xf] 40) = w0 at *
  have HLt := Lib.hid HX.out.lt
  have x0 := HX.out.cell 0
  have x1 := HX.out.cell 1
  have x2 := HX.out.cell 2
  have x3 := HX.out.cell 3
  have x4 := HX.out.cell 4
  dsimp at x0 x1 x2 x3 x4
  go_wp2_with fail
  refine (HT.out _).mono ?_
  rintro e1 w1 ⟨rfl, hb1⟩
  have HB1 := Lib.hid (bcall HBx.out hb1 HBx.out.size)
  have HX1 := Lib.hid (HX.out.below hb1 HLt.out)
  clear hb1 HT HBx HX x0 x1 x2 x3 x4
  cases o
  · go_wp2
    go_returns
    exact ⟨ret_bool (by rw [HR.out]; rfl), HB1.out⟩
  · have y1 := HX1.out.cell 5
    dsimp at y1
    go_wp2_with fail
    refine (HA.out _ HB1.out).mono ?_
    rintro e2 w2 ⟨rfl, hb2⟩
    have HB2 := Lib.hid (bcall HB1.out hb2 HB1.out.size)
    have HX2 := Lib.hid (HX1.out.below hb2 HX1.out.lt)
    clear hb2 HA HX1 y1
    cases ra
    · go_wp2
      go_returns
      exact ⟨ret_bool (by rw [HR.out]; cases e <;> rfl), HB2.out⟩
    · have y2 := HX2.out.cell 6
      dsimp at y2
      go_wp2_with fail
      refine (HB.out _ HB2.out).mono ?_
      rintro e3 w3 ⟨rfl, hb3⟩
      have HB3 := Lib.hid (bcall HB2.out hb3 HB2.out.size)
      have HX3 := Lib.hid (HX2.out.below hb3 HX2.out.lt)
      clear hb3 HB HX2 y2
      cases rb
      · go_wp2
        go_returns
        exact ⟨ret_bool (by rw [HR.out]; cases e <;> rfl), HB3.out⟩
      · have y3 := HX3.out.cell 7
        dsimp at y3
        go_wp2_with fail
        refine (HS.out _ HB3.out).mono ?_
        rintro e4 w4 ⟨rfl, hb4⟩
        have HB4 := Lib.hid (bcall HB3.out hb4 HB3.out.size)
        have HX4 := Lib.hid (HX3.out.below hb4 HX3.out.lt)
        clear hb4 HS HX3 y3
        cases rs
        · go_wp2
          go_returns
          exact ⟨ret_bool (by rw [HR.out]; cases e <;> rfl), HB4.out⟩
        · have z0 := HX4.out.cell 0
          have z1 := HX4.out.cell 1
          have z2 := HX4.out.cell 2
          have z3 := HX4.out.cell 3
          have z4 := HX4.out.cell 4
          have z5 := HX4.out.cell 5
          have z6 := HX4.out.cell 6
          have z7 := HX4.out.cell 7
          have z8 := HX4.out.cell 8
          have z9 := HX4.out.cell 9
          dsimp at z0 z1 z2 z3 z4 z5 z6 z7 z8 z9
          go_wp2_with fail
          refine (HE.out _).mono ?_
          rintro e9 w9 ⟨rfl, hb9⟩
          have HB9 := Lib.hid (bcall HB4.out hb9 HB4.out.size)
          clear hb9 HE z0 z1 z2 z3 z4 z5 z6 z7 z8 z9
          cases e
          · go_wp2
            go_returns
            exact ⟨ret_bool (by rw [HR.out]; rfl), HB9.out⟩
          · go_wp2
            go_returns
            exact ⟨ret_bool (by rw [HR.out]; rfl), HB9.out⟩
end Go.Proofs.YthhceggcdaljdaaGreat
/- append to rows that may be very long (as long as a slice may be) -/
namespace Go.Proofs.YthhceggcdaljdaaGreat
open Go.RowKit
set_option linter.unusedVariables false
set_option linter.unusedSimpArgs false

namespace RowKind
theorem len_ok {b n : Nat} (hb : 0 < b) (h : n * b ≤ 140737488355328) : n ≤ maxLen := by
  have : n * 1 ≤ n * b := Nat.mul_le_mul_left n hb
  unfold maxLen
  omega
section
variable {α : Type} {R : RowKind α}
/-- append of a row -/
theorem Own.appendL {ops : Array Oper} {rest : List Oper} {o : Oper} {a : Act} {Q : Exit → Act → World → Prop} {w : World} (hb0 : 0 < R.bytes) (hgd : o.guard = none) (s x : Operand)
    (ho : o.op = .call { callee := .builtin .append, args := #[s, x], argTypes := #[R.tS, R.tS] }) {B : Nat} {v vx : Value} {xs : List α} (hown : R.Own B w v xs) (hs : a.eval s = v) (ys : List α)
    (hx : a.eval x = vx) (hz : R.App w vx ys) (hlen : (xs.length + ys.length) * R.bytes ≤ 140737488355328) (hbase : B ≤ w.heap.size)
    (h : ∀ v' w', R.Own B w' v' (xs ++ ys) → w.grownBy w' v.ownBlock → wpList Tryz.prog ops Q rest (a.put o.dst v') w') : wpList Tryz.prog ops Q (o :: rest) a w := by
  obtain ⟨i0, hi, hz0, hz1, hz2⟩ := info_parts R.info
  obtain ⟨ad, c, rfl, hc⟩ := hz
  refine wpList_append_own _ hgd s x R.tS ho B R.tE i0 R.zero R.k R.bytes R.under hi hz0 hz1 hz2 R.zlen R.k0 v xs.length (R.cells xs) hs hown ad ys.length c (R.cells ys) hx (R.cells_len ys) hc one_cells ?_ hlen hbase ?_
  · exact len_ok hb0 hlen
  · intro v' w' h1 h2 _
    refine h v' w' ?_ h2
    unfold Own
    rw [R.cells_append, List.length_append]
    exact h1
/-- the same inside a region -/
theorem Own.appendRL {ops : Array Oper} {o : Oper} {a : Act} {K : Act → World → Prop} {Q : Exit → Act → World → Prop} {E : Prop} {w : World} (hb0 : 0 < R.bytes) (hgd : o.guard = none) (s x : Operand)
    (ho : o.op = .call { callee := .builtin .append, args := #[s, x], argTypes := #[R.tS, R.tS] }) {B : Nat} {v vx : Value} {xs : List α} (hown : R.Own B w v xs) (hs : a.eval s = v) (ys : List α)
    (hx : a.eval x = vx) (hz : R.App w vx ys) (hlen : (xs.length + ys.length) * R.bytes ≤ 140737488355328) (hbase : B ≤ w.heap.size)
    (h : ∀ v' w', R.Own B w' v' (xs ++ ys) → w.grownBy w' v.ownBlock → K (a.put o.dst v') w') :
    if Region.wanted o (yielded ops a.tmps) = true then Oper.wp Tryz.prog o a w K Q else E := by
  have hw : Region.wanted o (yielded ops a.tmps) = true := by simp [Region.wanted, hgd]
  rw [if_pos hw]
  obtain ⟨i0, hi, hz0, hz1, hz2⟩ := info_parts R.info
  obtain ⟨ad, c, rfl, hc⟩ := hz
  refine wp_append_own _ s x R.tS ho B R.tE i0 R.zero R.k R.bytes R.under hi hz0 hz1 hz2 R.zlen R.k0 v xs.length (R.cells xs) hs hown ad ys.length c (R.cells ys) hx (R.cells_len ys) hc one_cells ?_ hlen hbase ?_
  · exact len_ok hb0 hlen
  · intro v' w' h1 h2 _
    refine h v' w' ?_ h2
    unfold Own
    rw [R.cells_append, List.length_append]
    exact h1
end
section
variable {α : Type} [Inhabited α] {R : RowKind α}
/-- append of one that was just made -/
theorem Own.pushL {ops : Array Oper} {rest : List Oper} {o : Oper} {a : Act} {Q : Exit → Act → World → Prop} {w0 w : World} {B : Nat} {v : Value} {xs : List α} {y : α} (hown : R.Own B w v xs) (hb : Below B w0 w) (hB : B ≤ w.heap.size)
    (hb0 : 0 < R.bytes) (hgd : o.guard = none) (s x : Operand) (ho : o.op = .call { callee := .builtin .append, args := #[s, x], argTypes := #[R.tS, R.tS] }) (hs : a.eval s = v) (t : TypeId)
    (hx : a.eval x = .slice (some ⟨w.heap.size, 0, none⟩) 1 1) (hlen : (xs.length + 1) * R.bytes ≤ 140737488355328) (h0 : B ≤ w0.heap.size)
    (h : ∀ v' w', R.Own B w' v' (xs ++ [y]) → Below B w0 w' → w.heap.size ≤ w'.heap.size → wpList Tryz.prog ops Q rest (a.put o.dst v') w') :
    wpList Tryz.prog ops Q (o :: rest) a (w.alloc (.cells (R.enc y).toArray t)) := by
  have hown' : R.Own B (w.alloc (.cells (R.enc y).toArray t)) v xs := hown.alloc _
  refine Own.appendL (R := R) hb0 hgd s x ho hown' hs [y] hx (Row.app (ys := [y]) (Row.new w y t)) (by rw [List.length_singleton]; exact hlen) (by simp; omega) ?_
  intro v' w' h1 h2
  have hlt := hown'.lt
  have hsz := h2.size
  refine h v' w' h1 ?_ (by simp at hsz; omega)
  exact (hb.alloc hB _).grown h2 (by simp; omega) (fun k hk => (hlt k hk).1)
theorem Own.pushRL {ops : Array Oper} {o : Oper} {a : Act} {K : Act → World → Prop} {Q : Exit → Act → World → Prop} {E : Prop} {w0 w : World} {B : Nat} {v : Value} {xs : List α} {y : α} (hown : R.Own B w v xs) (hb : Below B w0 w) (hB : B ≤ w.heap.size)
    (hb0 : 0 < R.bytes) (hgd : o.guard = none) (s x : Operand) (ho : o.op = .call { callee := .builtin .append, args := #[s, x], argTypes := #[R.tS, R.tS] }) (hs : a.eval s = v) (t : TypeId)
    (hx : a.eval x = .slice (some ⟨w.heap.size, 0, none⟩) 1 1) (hlen : (xs.length + 1) * R.bytes ≤ 140737488355328)
    (h : ∀ v' w', R.Own B w' v' (xs ++ [y]) → Below B w0 w' → w.heap.size ≤ w'.heap.size → K (a.put o.dst v') w') :
    if Region.wanted o (yielded ops a.tmps) = true then Oper.wp Tryz.prog o a (w.alloc (.cells (R.enc y).toArray t)) K Q else E := by
  have hown' : R.Own B (w.alloc (.cells (R.enc y).toArray t)) v xs := hown.alloc _
  refine Own.appendRL (R := R) hb0 hgd s x ho hown' hs [y] hx (Row.app (ys := [y]) (Row.new w y t)) (by rw [List.length_singleton]; exact hlen) (by simp; omega) ?_
  intro v' w' h1 h2
  have hlt := hown'.lt
  have hsz := h2.size
  refine h v' w' h1 ?_ (by simp at hsz; omega)
  exact (hb.alloc hB _).grown h2 (by simp; omega) (fun k hk => (hlt k hk).1)
/-- append of a slice, wherever it lies, nil too -/
theorem Own.appendAnyL {ops : Array Oper} {rest : List Oper} {o : Oper} {a : Act} {Q : Exit → Act → World → Prop} {w0 w : World} {B : Nat} {v vx : Value} {xs ys : List α} (hown : R.Own B w v xs) (hb : Below B w0 w) (hB : B ≤ w.heap.size)
    (hb0 : 0 < R.bytes) (hgd : o.guard = none) (s x : Operand) (ho : o.op = .call { callee := .builtin .append, args := #[s, x], argTypes := #[R.tS, R.tS] }) (hs : a.eval s = v)
    (hx : a.eval x = vx) (his : R.Is w vx ys) (hlen : (xs.length + ys.length) * R.bytes ≤ 140737488355328)
    (h : ∀ v' w', R.Own B w' v' (xs ++ ys) → Below B w0 w' → w.heap.size ≤ w'.heap.size → wpList Tryz.prog ops Q rest (a.put o.dst v') w') :
    wpList Tryz.prog ops Q (o :: rest) a w := by
  have hlt := hown.lt
  have fin : ∀ v' w', R.Own B w' v' (xs ++ ys) → w.grownBy w' v.ownBlock → wpList Tryz.prog ops Q rest (a.put o.dst v') w' := fun v' w' h1 h2 =>
    h v' w' h1 (hb.grown h2 hB (fun k hk => (hlt k hk).1)) h2.size
  rcases his with ⟨rfl, p, cap, rfl, hp⟩ | ⟨_, b, off, cap, rfl, _, hr⟩
  · cases p with
    | none =>
      obtain rfl := hp rfl
      obtain ⟨i0, hi, _⟩ := info_parts R.info
      refine wpList_append_own_none hgd s x R.tS ho B R.tE i0 R.k R.under hi v _ _ hs hown hx ?_
      exact h v w (by rw [List.append_nil]; exact hown) hb (Nat.le_refl _)
    | some ad =>
      refine Own.appendL (R := R) hb0 hgd s x ho hown hs [] hx ⟨ad, cap, rfl, fun j u hu => by simp [cells] at hu⟩ hlen hB fin
  · exact Own.appendL hb0 hgd s x ho hown hs ys hx hr.app hlen hB fin
end
end RowKind
end Go.Proofs.YthhceggcdaljdaaGreat
/- append to long rows inside a region that draws, from any slice; the block stays, or it is new -/
namespace Go.Proofs.YthhceggcdaljdaaGreat
open Go.RowKit
set_option linter.unusedVariables false
set_option linter.unusedSimpArgs false
namespace RowKind
section
variable {α : Type} {R : RowKind α}
theorem run_appendBL {w : World} {B : Nat} {v vx : Value} {xs ys : List α} (hown : R.Own B w v xs) (hz : R.App w vx ys) (hb0 : 0 < R.bytes) (hlen : (xs.length + ys.length) * R.bytes ≤ 140737488355328) (hB : B ≤ w.heap.size) (ty : TypeId) :
    ∃ v' w', (Builtin.append_ #[R.tS, R.tS] ty #[v, vx]).run Tryz.prog w = .ok v' w' ∧ R.Own B w' v' (xs ++ ys) ∧ w.grownBy w' v.ownBlock ∧ StaysOrNew w v v' := by
  obtain ⟨i0, hi, hz0, hz1, hz2⟩ := info_parts R.info
  obtain ⟨ad, c, rfl, hc⟩ := hz
  have hm : xs.length + ys.length ≤ maxLen := len_ok hb0 hlen
  obtain ⟨v', w', hr, h1, h2, _⟩ := run_append_own (P := Tryz.prog) w B R.tS ty R.tE i0 R.zero R.k R.bytes R.under hi hz0 hz1 hz2 R.zlen R.k0 v xs.length (R.cells xs) hown ad ys.length c (R.cells ys) (R.cells_len ys) hc one_cells hm hlen hB
  refine ⟨v', w', hr, ?_, h2, ?_⟩
  · unfold Own
    rw [R.cells_append, List.length_append]
    exact h1
  · obtain ⟨hl, ⟨rfl, hn⟩ | ⟨g, cap, cur, rfl, hg0, hg, hle, hmx, hcs, htk⟩⟩ := hown
    · have hx : xs = [] := List.length_eq_zero_iff.1 hn
      subst hx
      obtain ⟨v2, w2, hr2, k1, _, _⟩ := run_append_own (P := Tryz.prog) w w.heap.size R.tS ty R.tE i0 R.zero R.k R.bytes R.under hi hz0 hz1 hz2 R.zlen R.k0 (.slice none 0 0) 0 [] (World.ownsRow_nil w _ R.tE R.k) ad ys.length c (R.cells ys) (R.cells_len ys) hc one_cells (by simpa using hm) (by simpa using hlen) (Nat.le_refl _)
      rw [hr] at hr2
      injection hr2 with e1 e2
      subst e1
      subst e2
      exact .inr fun k hk => (World.ownsRow.lt k1 k hk).1
    · by_cases hroom : xs.length + ys.length ≤ cap
      · have hk := R.k0
        have hsz : ∀ j, j < (R.cells ys).length → xs.length * i0.size + j < cur.size := fun j hj => by
          rw [R.cells_len] at hj
          rw [hcs, hz1]
          have : (xs.length + ys.length) * R.k ≤ cap * R.k := Nat.mul_le_mul_right _ hroom
          rw [Nat.add_mul] at this
          omega
        have hrun := run_append_room_cells (P := Tryz.prog) w R.tS ty R.tE i0 R.under hi g 0 xs.length cap ad ys.length c (R.cells ys) (by rw [hz1]; exact R.cells_len ys) hc one_cells hroom
          (fun j hj => by rw [Nat.zero_add]; unfold World.cell?; simp only [hg]; rw [Array.getElem?_eq_getElem (hsz j hj)]; rfl)
          (fun j hj => by unfold World.frozen?; simp only [hg]; simp)
        rw [hr] at hrun
        injection hrun with e1 e2
        subst e1
        exact .inl rfl
      · obtain ⟨v2, w2, hr2, k1, _⟩ := run_append_arg_grows (P := Tryz.prog) w R.tS ty R.tE i0 R.zero R.k R.bytes R.under hi hz0 hz1 hz2 R.zlen R.k0 ⟨g, 0, none⟩ xs.length cap (R.cells xs) (R.cells_len xs)
          (fun j u hj => by
            rw [Addr.add_lit, Nat.zero_add]
            unfold World.cell?
            simp only [hg]
            rw [← htk] at hj
            rw [List.getElem?_take] at hj
            split at hj
            · simpa using hj
            · cases hj)
          ad ys.length c (R.cells ys) (R.cells_len ys) hc (by omega) hm hlen
        rw [hr] at hr2
        injection hr2 with e1 e2
        subst e1
        subst e2
        exact .inr fun k hk => (World.ownsRow.lt k1 k hk).1
end
section
variable {α : Type} [Inhabited α] {R : RowKind α}
/-- append of a slice, wherever it lies, nil too -/
theorem run_appendAnyL {w : World} {B : Nat} {v vx : Value} {xs ys : List α} (hown : R.Own B w v xs) (his : R.Is w vx ys) (hb0 : 0 < R.bytes) (hlen : (xs.length + ys.length) * R.bytes ≤ 140737488355328) (hB : B ≤ w.heap.size) (ty : TypeId) :
    ∃ v' w', (Builtin.append_ #[R.tS, R.tS] ty #[v, vx]).run Tryz.prog w = .ok v' w' ∧ R.Own B w' v' (xs ++ ys) ∧ w.grownBy w' v.ownBlock ∧ StaysOrNew w v v' := by
  rcases his with ⟨rfl, p, cap, rfl, hp⟩ | ⟨hne, b, off, cap, rfl, hb, hr⟩
  · cases p with
    | none =>
      obtain rfl := hp rfl
      obtain ⟨i0, hi, _⟩ := info_parts R.info
      exact ⟨v, w, run_append_owned_none (P := Tryz.prog) (w := w) B R.tS ty R.tE i0 R.k R.under hi v _ _ hown, by rw [List.append_nil]; exact hown, ⟨rfl, rfl, rfl, Nat.le_refl _, fun _ _ _ => rfl⟩, .inl rfl⟩
    | some ad => exact run_appendBL hown ⟨ad, cap, rfl, fun j u hu => by simp [cells] at hu⟩ hb0 hlen hB ty
  · exact run_appendBL hown hr.app hb0 hlen hB ty
theorem Own.appendAnyRL {ops : Array Oper} {o : Oper} {a : Act} {K : Act → World → Prop} {Q : Exit → Act → World → Prop} {E : Prop} {w : World} (hb0 : 0 < R.bytes) (hgd : o.guard = none) (s x : Operand)
    (ho : o.op = .call { callee := .builtin .append, args := #[s, x], argTypes := #[R.tS, R.tS] }) {B : Nat} {v vx : Value} {xs ys : List α} (hown : R.Own B w v xs) (hs : a.eval s = v)
    (hx : a.eval x = vx) (his : R.Is w vx ys) (hlen : (xs.length + ys.length) * R.bytes ≤ 140737488355328) (hbase : B ≤ w.heap.size)
    (h : ∀ v' w', R.Own B w' v' (xs ++ ys) → w.grownBy w' v.ownBlock → StaysOrNew w v v' → K (a.put o.dst v') w') :
    if Region.wanted o (yielded ops a.tmps) = true then Oper.wp Tryz.prog o a w K Q else E := by
  have hw : Region.wanted o (yielded ops a.tmps) = true := by simp [Region.wanted, hgd]
  rw [if_pos hw]
  obtain ⟨v', w', hr, h1, h2, h3⟩ := run_appendAnyL hown his hb0 hlen hbase o.type
  exact wp_of_runB ho (by rw [hs, hx]; exact hr) (h v' w' h1 h2 h3)
end
end RowKind
end Go.Proofs.YthhceggcdaljdaaGreat
