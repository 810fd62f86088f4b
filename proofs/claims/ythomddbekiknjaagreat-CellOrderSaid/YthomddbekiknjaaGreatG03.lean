import Derived.Test.YthomddbekiknjaaGreatG02
namespace Go.Proofs.YthomddbekiknjaaGreat
open Go.RowKit
set_option linter.unusedVariables false
set_option linter.unusedSimpArgs false

theorem one_int (k : IntKind) (n : Int) : (Value.int k n).oneCell' = true := rfl
theorem one_bool (b : Bool) : (Value.bool b).oneCell' = true := rfl
/-- the row that begins at an address -/
def rowAt (w : World) (a : Addr) : Option (Array Value) := if a.off = 0 ∧ a.spot = none then rowOf w a.block else none
theorem rowAt_head (w : World) (b : Nat) : rowAt w ⟨b, 0, none⟩ = rowOf w b := rfl
theorem at_head {w : World} {a : Addr} {c : Array Value} (h : rowAt w a = some c) : a = ⟨a.block, 0, none⟩ ∧ rowOf w a.block = some c := by
  unfold rowAt at h
  split at h
  · rename_i q
    obtain ⟨b, o, sp⟩ := a
    obtain ⟨rfl, rfl⟩ := q
    exact ⟨rfl, h⟩
  · cases h
theorem run_loadVar_at (P : Program) (w : World) (t : TypeId) (a : Addr) (n : Nat) (ha : (isAgg t).run P w = .ok true w) (hs : (sizeOf t).run P w = .ok n w) :
    (loadVar t a).run P w = match rowAt w a with
      | some c => if c.size = n then .ok (.agg c) w else (slow (loadVar t a)).run P w
      | none => (slow (loadVar t a)).run P w := by
  split
  · rename_i c hc
    obtain ⟨h1, h2⟩ := at_head hc
    rw [h1]
    rw [run_loadVar_of P w t a.block n ha hs, h2]
  · rfl
theorem run_storeVar_at (P : Program) (w : World) (t : TypeId) (a : Addr) (n : Nat) (cs : Array Value) (hs : (sizeOf t).run P w = .ok n w) :
    (storeVar t a (.agg cs)).run P w = match rowAt w a with
      | some c => if c.size = n ∧ cs.size = n ∧ n ≠ 0 ∧ cs.toList.all Value.oneCell' = true then .ok () (setRow w a.block cs) else (slow (storeVar t a (.agg cs))).run P w
      | none => (slow (storeVar t a (.agg cs))).run P w := by
  split
  · rename_i c hc
    obtain ⟨h1, h2⟩ := at_head hc
    rw [h1]
    rw [run_storeVar_of P w t a.block n cs hs, h2]
  · rfl
theorem run_loadAt_any (P : Program) (w : World) (t : TypeId) (n : Nat) (ha : (isAgg t).run P w = .ok true w) (hs : (sizeOf t).run P w = .ok n w) (p : Value) :
    (Instr.loadAt t p).run P w = match p with
      | .pointer (some a) => (match rowAt w a with
        | some c => if c.size = n then .ok (.agg c) w else (slow (Instr.loadAt t (.pointer (some a)))).run P w
        | none => (slow (Instr.loadAt t (.pointer (some a)))).run P w)
      | p => (slow (Instr.loadAt t p)).run P w := by
  split
  · rename_i a
    have h : (Instr.loadAt t (.pointer (some a))).run P w = (loadVar t a).run P w := by simp [Instr.loadAt, Instr.sureAddr]
    rw [h, run_loadVar_at P w t a n ha hs]
    split
    · split
      · rfl
      · exact h.symm
    · exact h.symm
  · rfl
theorem run_storeAt_any (P : Program) (w : World) (t : TypeId) (n : Nat) (hs : (sizeOf t).run P w = .ok n w) (p v : Value) :
    (Instr.storeAt t p v).run P w = match p, v with
      | .pointer (some a), .agg cs => (match rowAt w a with
        | some c => if c.size = n ∧ cs.size = n ∧ n ≠ 0 ∧ cs.toList.all Value.oneCell' = true then .ok () (setRow w a.block cs) else (slow (Instr.storeAt t (.pointer (some a)) (.agg cs))).run P w
        | none => (slow (Instr.storeAt t (.pointer (some a)) (.agg cs))).run P w)
      | p, v => (slow (Instr.storeAt t p v)).run P w := by
  split
  · rename_i a cs
    have h : (Instr.storeAt t (.pointer (some a)) (.agg cs)).run P w = (storeVar t a (.agg cs)).run P w := by simp [Instr.storeAt, Instr.sureAddr]
    rw [h, run_storeVar_at P w t a n cs hs]
    split
    · split
      · rfl
      · exact h.symm
    · exact h.symm
  · rfl
def slowP (p : Prop) : Prop := p
theorem row_new {w : World} {c : Array Value} {t : TypeId} {n : Nat} (hn : n = w.heap.size) : rowOf (w.alloc (.cells c t)) n = some c := rowOf_alloc_at c t n hn
theorem row_old {w : World} {o : Obj} {n : Nat} {c : Array Value} (h : rowOf w n = some c) : rowOf (w.alloc o) n = some c := (rowOf_alloc_past o n (rowOf_lt h)).trans h
theorem row_drew {w : World} {n : Nat} {c : Array Value} (h : rowOf w n = some c) : rowOf w.drew n = some c := h
theorem row_drewN {w : World} {m n : Nat} {c : Array Value} (h : rowOf w n = some c) : rowOf (w.drewN m) n = some c := h
theorem row_set_other {w : World} {b n : Nat} {c c' : Array Value} (h : rowOf w n = some c) (hne : n ≠ b) : rowOf (setRow w b c') n = some c := (rowOf_setRow_other b n c' hne).trans h
theorem row_set_same {w : World} {b : Nat} {c c' : Array Value} (h : rowOf w b = some c) : rowOf (setRow w b c') b = some c' := rowOf_setRow_same b c' (by rw [h]; rfl)
theorem row_cell_other {w : World} {b i n : Nat} {v : Value} {c : Array Value} (h : rowOf w n = some c) (hne : n ≠ b) : rowOf (w.setCell ⟨b, i, none⟩ v) n = some c := (rowOf_setCell_other ⟨b, i, none⟩ n v hne).trans h
theorem row_cell_same {w : World} {b i : Nat} {v : Value} {c c' : Array Value} (h : rowOf w b = some c) (e : c.setIfInBounds i v = c') : rowOf (w.setCell ⟨b, i, none⟩ v) b = some c' := by rw [rowOf_setCell_same, h]; simp [e]
theorem cell_setRow_same {w : World} (b i : Nat) (c : Array Value) (h : (rowOf w b).isSome = true) : (setRow w b c).cell? ⟨b, i, none⟩ = c[i]? := rowOf_cell (rowOf_setRow_same b c h) i
theorem frozen_setRow_same {w : World} (b i : Nat) (c : Array Value) (h : (rowOf w b).isSome = true) : (setRow w b c).frozen? ⟨b, i, none⟩ = false := rowOf_frozen (rowOf_setRow_same b c h) i
theorem cell_setRow_other {w : World} (b n i : Nat) (c : Array Value) (h : n ≠ b) : (setRow w b c).cell? ⟨n, i, none⟩ = w.cell? ⟨n, i, none⟩ := World.cell?_of_block (w := w) (heap_setRow w b c n h)
theorem frozen_setRow_other {w : World} (b n i : Nat) (c : Array Value) (h : n ≠ b) : (setRow w b c).frozen? ⟨n, i, none⟩ = w.frozen? ⟨n, i, none⟩ := World.frozen?_of_block (w := w) (heap_setRow w b c n h)
/-- old memory is as it was: from one world to the next -/
theorem bstep {B : Nat} {a W w1 : World} (h : Below B a W) (hb : Below W.heap.size W w1) (hB : B ≤ W.heap.size) : Below B a w1 := h.trans (hb.mono hB)
theorem blast {B : Nat} {a w : World} (h : Below B a w) (n : Nat) : Below B a (w.drewN n) := ⟨h.os, h.tape, h.output, h.size, h.block⟩
end Go.Proofs.YthomddbekiknjaaGreat
/- a whole api.Item loaded and stored in one step -/
namespace Go.Proofs.YthomddbekiknjaaGreat
open Go.RowKit
set_option linter.unusedVariables false
set_option linter.unusedSimpArgs false

theorem loadI (dst : Option Nat) (type : TypeId) (pos : String) (after : Array Edge) (guard : Option (Nat × Bool)) (x : Operand) (a : Act) (w : World) (next : Act → World → Prop) (Q : Exit → Act → World → Prop) :
    Oper.wp Tryz.prog ⟨dst, .load 57 x, type, pos, after, guard⟩ a w next Q = match a.eval x with
      | .pointer (some ad) => (match rowAt w ad with
        | some c => if c.size = 3 then next (a.put dst (.agg c)) w else slowP (Oper.wp Tryz.prog ⟨dst, .load 57 x, type, pos, after, guard⟩ a w next Q)
        | none => slowP (Oper.wp Tryz.prog ⟨dst, .load 57 x, type, pos, after, guard⟩ a w next Q))
      | _ => slowP (Oper.wp Tryz.prog ⟨dst, .load 57 x, type, pos, after, guard⟩ a w next Q) := by
  split
  · rename_i ad hx
    split
    · rename_i c hc
      split
      · rename_i hn
        have h := run_loadAt_any Tryz.prog w 57 3 (by kernel_rfl) (by kernel_rfl) (.pointer (some ad))
        simp only [hc, hn, if_true] at h
        simp only [Oper.wp, execOp, hx, Sem.run_bind, h, Result.andThen, Sem.run_pure, Oper.upon_value]
      · rfl
    · rfl
  · rfl
theorem storeI (dst : Option Nat) (type : TypeId) (pos : String) (after : Array Edge) (guard : Option (Nat × Bool)) (x y : Operand) (a : Act) (w : World) (next : Act → World → Prop) (Q : Exit → Act → World → Prop) :
    Oper.wp Tryz.prog ⟨dst, .store 57 x y, type, pos, after, guard⟩ a w next Q = match a.eval x, a.eval y with
      | .pointer (some ad), .agg cs => (match rowAt w ad with
        | some c => if c.size = 3 ∧ cs.size = 3 ∧ 3 ≠ 0 ∧ cs.toList.all Value.oneCell' = true then next (a.put dst undef) (setRow w ad.block cs) else slowP (Oper.wp Tryz.prog ⟨dst, .store 57 x y, type, pos, after, guard⟩ a w next Q)
        | none => slowP (Oper.wp Tryz.prog ⟨dst, .store 57 x y, type, pos, after, guard⟩ a w next Q))
      | _, _ => slowP (Oper.wp Tryz.prog ⟨dst, .store 57 x y, type, pos, after, guard⟩ a w next Q) := by
  split
  · rename_i ad cs hx hy
    split
    · rename_i c hc
      split
      · rename_i hn
        have h := run_storeAt_any Tryz.prog w 57 3 (by kernel_rfl) (.pointer (some ad)) (.agg cs)
        simp only [hc] at h
        rw [if_pos hn] at h
        simp only [Oper.wp, execOp, hx, hy, Sem.run_bind, h, Result.andThen, Sem.run_pure, Oper.upon_skip]
      · rfl
    · rfl
  · rfl
end Go.Proofs.YthomddbekiknjaaGreat
namespace Go.Proofs.YthomddbekiknjaaGreat
open Go.RowKit
set_option linter.unusedVariables false
set_option linter.unusedSimpArgs false
attribute [local go_sem ↓] loadI storeI
attribute [local simp] size_setRow
attribute [local go_sem] rowAt_head rowOf_alloc_at rowOf_alloc_past rowOf_drew rowOf_drewN rowOf_setRow_same rowOf_setRow_other rowOf_setCell_same rowOf_setCell_other size_setRow setRow_drew setRow_alloc_at setRow_alloc_past one_int one_bool cell_setRow_same cell_setRow_other frozen_setRow_same frozen_setRow_other
def moreI (c : IV) (n : Int) : IV := if fitsN (c.n + n) then ⟨c.t, c.n + n⟩ else c
set_option maxRecDepth 100000 in
set_option maxHeartbeats 4000000 in
theorem bmore_any (c : IV) (n : Int) (w : World) (h1 : -2147483648 ≤ c.n ∧ c.n ≤ 2147483648) (h2 : -2147483648 ≤ n ∧ n ≤ 2147483648) :
    Calls Tryz.prog 71 #[c.val, .int .i64 n] w (Ret (moreI c n).val w) := by
  obtain ⟨t, m⟩ := c
  simp only at h1
  obtain ⟨a1, a2⟩ := h1
  obtain ⟨b1, b2⟩ := h2
  have c1 : -9223372036854775808 ≤ m + n := by omega
  have c2 : m + n ≤ 9223372036854775807 := by omega
  have hF := fun W => bfits_any (m + n) W
  have hm : (moreI ⟨t, m⟩ n).val = (if fitsN (m + n) then IV.val ⟨t, m + n⟩ else IV.val ⟨t, m⟩) := by unfold moreI; simp only; split <;> rfl
  generalize fitsN (m + n) = q at hF hm
  have hT : q = true → (moreI ⟨t, m⟩ n).val = .agg #[.int .i64 t.k, .int .i64 t.v, .int .i64 (m + n)] := fun h => by rw [hm, h]; rfl
  have hN : q = false → (moreI ⟨t, m⟩ n).val = .agg #[.int .i64 t.k, .int .i64 t.v, .int .i64 m] := fun h => by rw [hm, h]; rfl
  generalize (moreI ⟨t, m⟩ n).val = res at hT hN ⊢
  have HF := Lib.hid hF; have HT := Lib.hid hT; have HN := Lib.hid hN
  clear hm hF hT hN
  show Calls _ _ #[.agg #[.int .i64 t.k, .int .i64 t.v, .int .i64 m], _] _ _
  go_enter Tryz.func71, Tryz.ntmps71
  cases q
  · go_wp2_with fail
    refine (HF.out _).mono ?_
    rintro e w1 ⟨rfl, hb1⟩
    have N_x : rowOf w1 w.heap.size = some #[.int .i64 t.k, .int .i64 t.v, .int .i64 m] := rowOf_below (row_old (row_new rfl)) hb1 (by simp; omega)
    have N_r : rowOf w1 (w.heap.size + 1) = some #[.int .i64 0, .int .i64 0, .int .i64 0] := rowOf_below (row_new (by simp)) hb1 (by simp)
    have hB : Below w.heap.size w w1 := bcall (by repeat' first | exact Below.refl _ _ | (apply Below.alloc) | (simp; done)) hb1 (by simp; omega)
    have hz := hB.size
    have L_x := rowOf_lt N_x
    have L_r := rowOf_lt N_r
    have D_x := Nat.ne_of_lt L_x
    have D_r := Nat.ne_of_lt L_r
    have E0 : rowOf (w1.setCell ⟨w.heap.size, 2, none⟩ (.int .i64 (m + n))) w.heap.size = some #[.int .i64 t.k, .int .i64 t.v, .int .i64 (m + n)] := row_cell_same N_x rfl
    have p2 : w1.cell? ⟨w.heap.size, 2, none⟩ = some (.int .i64 m) := rowOf_cell N_x 2
    have q2 := rowOf_frozen N_x 2
    clear hb1
    go_wp2
    rw [HN.out (by trivial)]
    exact bodyPost_ret (v := .agg #[.int .i64 t.k, .int .i64 t.v, .int .i64 m]) (by simp [results, Tryz.results71, go_sem, N_x, N_r, E0, L_x, L_r, D_x, D_r]) rfl ⟨rfl, by repeat' first | (with_reducible first | exact hB | exact Below.refl _ _ | apply blast | apply Below.drew | apply below_setRow | apply Below.alloc | apply Below.setCell) | (first | with_reducible assumption | (simp; done) | (go_light; first | omega | (simp; omega)))⟩
  · go_wp2_with fail
    refine (HF.out _).mono ?_
    rintro e w1 ⟨rfl, hb1⟩
    have N_x : rowOf w1 w.heap.size = some #[.int .i64 t.k, .int .i64 t.v, .int .i64 m] := rowOf_below (row_old (row_new rfl)) hb1 (by simp; omega)
    have N_r : rowOf w1 (w.heap.size + 1) = some #[.int .i64 0, .int .i64 0, .int .i64 0] := rowOf_below (row_new (by simp)) hb1 (by simp)
    have hB : Below w.heap.size w w1 := bcall (by repeat' first | exact Below.refl _ _ | (apply Below.alloc) | (simp; done)) hb1 (by simp; omega)
    have hz := hB.size
    have L_x := rowOf_lt N_x
    have L_r := rowOf_lt N_r
    have D_x := Nat.ne_of_lt L_x
    have D_r := Nat.ne_of_lt L_r
    have E0 : rowOf (w1.setCell ⟨w.heap.size, 2, none⟩ (.int .i64 (m + n))) w.heap.size = some #[.int .i64 t.k, .int .i64 t.v, .int .i64 (m + n)] := row_cell_same N_x rfl
    have p2 : w1.cell? ⟨w.heap.size, 2, none⟩ = some (.int .i64 m) := rowOf_cell N_x 2
    have q2 := rowOf_frozen N_x 2
    clear hb1
    go_wp2
    rw [HT.out (by trivial)]
    exact bodyPost_ret (v := .agg #[.int .i64 t.k, .int .i64 t.v, .int .i64 (m + n)]) (by simp [results, Tryz.results71, go_sem, N_x, N_r, E0, L_x, L_r, D_x, D_r]) rfl ⟨rfl, by repeat' first | (with_reducible first | exact hB | exact Below.refl _ _ | apply blast | apply Below.drew | apply below_setRow | apply Below.alloc | apply Below.setCell) | (first | with_reducible assumption | (simp; done) | (go_light; first | omega | (simp; omega)))⟩
end Go.Proofs.YthomddbekiknjaaGreat
/- two right bags gone through side by side, as a plain function -/
namespace Go.Proofs.YthomddbekiknjaaGreat
open Go.RowKit
set_option linter.unusedVariables false
set_option linter.unusedSimpArgs false

def mergedI : List IV → List IV → List IV
  | [], ys => ys
  | x :: xs, [] => x :: xs
  | x :: xs, y :: ys => if cmpR x.t y.t < 0 then x :: mergedI xs (y :: ys) else if 0 < cmpR x.t y.t then y :: mergedI (x :: xs) ys else if (moreI x y.n).n = 0 then mergedI xs ys else moreI x y.n :: mergedI xs ys
termination_by xs ys => xs.length + ys.length
theorem mergedI_nil (xs : List IV) : mergedI xs [] = xs := by cases xs <;> simp [mergedI]
theorem nil_mergedI (ys : List IV) : mergedI [] ys = ys := by simp [mergedI]
theorem mergedI_lt {x y : IV} (xs ys : List IV) (h : cmpR x.t y.t < 0) : mergedI (x :: xs) (y :: ys) = x :: mergedI xs (y :: ys) := by rw [mergedI, if_pos h]
theorem mergedI_gt {x y : IV} (xs ys : List IV) (h : 0 < cmpR x.t y.t) : mergedI (x :: xs) (y :: ys) = y :: mergedI (x :: xs) ys := by rw [mergedI, if_neg (by omega), if_pos h]
theorem mergedI_no {x y : IV} (xs ys : List IV) (h : cmpR x.t y.t = 0) (h3 : (moreI x y.n).n = 0) : mergedI (x :: xs) (y :: ys) = mergedI xs ys := by rw [mergedI, if_neg (by omega), if_neg (by omega), if_pos h3]
theorem mergedI_one {x y : IV} (xs ys : List IV) (h : cmpR x.t y.t = 0) (h3 : ¬ (moreI x y.n).n = 0) : mergedI (x :: xs) (y :: ys) = moreI x y.n :: mergedI xs ys := by rw [mergedI, if_neg (by omega), if_neg (by omega), if_neg h3]
end Go.Proofs.YthomddbekiknjaaGreat
/- bag.There -/
namespace Go.Proofs.YthomddbekiknjaaGreat
open Go.RowKit
set_option linter.unusedVariables false
set_option linter.unusedSimpArgs false

def posI (xs : List IV) : List IV := xs.filter fun c => decide (0 < c.n)
def thereI (xs : List IV) : List IV := if rightI xs = true then posI xs else []
theorem pos_take_succ {xs : List IV} {k : Nat} (hk : k < xs.length) : posI (xs.take (k + 1)) = posI (xs.take k) ++ (if 0 < (xs[k]!).n then [xs[k]!] else []) := by
  unfold posI
  rw [take_getA xs k hk, List.filter_append]
  split
  · rename_i h; rw [List.filter_cons_of_pos (by simpa using h)]; rfl
  · rename_i h; rw [List.filter_cons_of_neg (by simpa using h)]; rfl
theorem pos_length (xs : List IV) : (posI xs).length ≤ xs.length := List.length_filter_le _ _
set_option maxRecDepth 100000 in
set_option maxHeartbeats 4000000 in
theorem bthere_row (xs : List IV) (b off cap : Nat) (w : World) (hl : xs.length ≤ 900000) (hb : b < w.heap.size) (hr : RI.Row w b off xs) (h0 : xs ≠ []) :
    Calls Tryz.prog 65 #[.slice (some ⟨b, off, none⟩) xs.length cap] w (RI.Made (thereI xs) w) := by
  have hrow : Hid (∀ (W : World), Below w.heap.size w W → ∀ j, j < xs.length → _) := fun W hW j hj => atI (hr.below hW hb) j hj
  have hRT := bright_any xs (.slice (some ⟨b, off, none⟩) xs.length cap) w hl (.inr ⟨h0, b, off, cap, rfl, hb, hr⟩)
  have hno : rightI xs = false → thereI xs = [] := fun h => by unfold thereI; rw [h]; rfl
  have hyes : rightI xs = true → thereI xs = posI xs := fun h => by unfold thereI; rw [h]; rfl
  generalize rightI xs = q at hRT hno hyes
  generalize thereI xs = res at hno hyes ⊢
  have HRT := Lib.hid hRT; have HNo := Lib.hid hno; have HYes := Lib.hid hyes
  clear hr hRT hno hyes h0
  generalize hn : xs.length = n at hl HRT hrow
  have HN := Lib.hid hn
  clear hn
  go_enter Tryz.func65, Tryz.ntmps65
  go_wp2_with fail
  refine (HRT.out).mono ?_
  rintro e w1 ⟨rfl, hb1⟩
  have HB1 := Lib.hid hb1
  clear hb1 HRT
  cases q
  · go_wp2
    go_returns
    exact ⟨_, rfl, by rw [HNo.out (by trivial)]; exact RowKind.Own.nil RI _ _, HB1.out⟩
  · go_wp2
    go_loopg [3, 11] n (fun gg v i wr => ∃ k : Nat, k ≤ n ∧ n - k ≤ gg ∧ i = .int .i64 k ∧ Hid (Below w.heap.size w wr) ∧ Hid (RI.Own w.heap.size wr v (posI (xs.take k))))
    case atStart => exact ⟨0, Nat.zero_le _, by omega, rfl, HB1.out, RowKind.Own.nil RI _ _⟩
    case round =>
      obtain ⟨k, hkn, hg, rfl, HB, HO⟩ := hrel
      by_cases hlt : k < n
      · have hlz : (k : Int) < (n : Int) := by omega
        have hc := hrow.out wr HB.out k hlt
        have hts := pos_take_succ (xs := xs) (k := k) (by rw [HN.out]; exact hlt)
        have hlen : (posI (xs.take k)).length ≤ 900000 := by
          have h1 := pos_length (xs.take k)
          rw [List.length_take] at h1
          omega
        generalize posI (xs.take k) = acc at HO hts hlen
        generalize xs[k]! = c at hc hts
        obtain ⟨t, m⟩ := c
        obtain ⟨e0, e1, e2⟩ := hc
        simp only at e0 e1 e2 hts
        have hz := HB.out.size
        have HBn := Lib.hid ((HB.out).alloc hz (.cells #[.int .i64 t.k, .int .i64 t.v, .int .i64 m] 57))
        have HOn := Lib.hid (HO.out.alloc (.cells #[.int .i64 t.k, .int .i64 t.v, .int .i64 m] 57))
        have HZn := Lib.hid HBn.out.size
        clear hrow
        by_cases hm : 0 < m
        · rw [if_pos hm] at hts
          have HTS := Lib.hid hts
          clear hts HO HB
          go_wp2_with (at_builtin; refine RowKind.Own.push (R := RI) (y := ⟨t, m⟩) HOn.out HBn.out HZn.out rfl _ _ rfl rfl _ (by show Value.slice (some ⟨wr.heap.size + 1, 0, none⟩) 1 1 = _; rw [World.size_alloc]) hlen (Nat.le_refl _) ?_; intro v2 w2 hO2 hB2 hz2)
          go_roundg (n - (k + 1))
          case measure => omega
          case rel =>
            refine ⟨k + 1, by omega, by omega, by go_num, hB2, ?_⟩
            show RI.Own _ _ _ _
            rw [HTS.out]
            exact hO2
        · rw [if_neg hm, List.append_nil] at hts
          have HTS := Lib.hid hts
          clear hts HO HB
          go_wp2
          go_roundg (n - (k + 1))
          case measure => omega
          case rel =>
            refine ⟨k + 1, by omega, by omega, by go_num, HBn.out, ?_⟩
            show RI.Own _ _ _ _
            rw [HTS.out]
            exact HOn.out
      · have hlz : ¬ (k : Int) < (n : Int) := by omega
        have : k = n := by omega
        subst this
        have HX : Hid (RI.Own w.heap.size wr u3 (posI xs)) := by
          have h := HO.out
          rw [List.take_of_length_le (by rw [HN.out]; exact Nat.le_refl _)] at h
          exact h
        clear HO hrow
        go_wp2
        go_returns
        exact ⟨_, rfl, by rw [HYes.out (by trivial)]; exact HX.out, HB.out⟩
set_option maxRecDepth 100000 in
set_option maxHeartbeats 4000000 in
theorem bthere_nil (p : Option Addr) (cap : Nat) (w : World) : Calls Tryz.prog 65 #[.slice p 0 cap] w (RI.Made (thereI []) w) := by
  have HRT := Lib.hid (bright_nil p cap w)
  have hr : rightI [] = true := by decide
  have hf : thereI [] = [] := by unfold thereI; rw [hr]; rfl
  rw [hr] at HRT
  rw [hf]
  go_enter Tryz.func65, Tryz.ntmps65
  go_wp2_with fail
  refine (HRT.out).mono ?_
  rintro e w1 ⟨rfl, hb1⟩
  have HB1 := Lib.hid hb1
  clear hb1 HRT
  go_wp2
  refine wp_loop_rounds 1 ?_
  rw [rounds_succ]
  go_wp2
  go_returns
  exact ⟨_, rfl, RowKind.Own.nil RI _ _, HB1.out⟩
theorem bthere_any (xs : List IV) (v : Value) (w : World) (hl : xs.length ≤ 900000) (h : RI.Is w v xs) : Calls Tryz.prog 65 #[v] w (RI.Made (thereI xs) w) := by
  rcases h with ⟨rfl, p, cap, rfl, _⟩ | ⟨h0, b, off, cap, rfl, hb, hr⟩
  · exact bthere_nil p cap w
  · exact bthere_row xs b off cap w hl hb hr h0
end Go.Proofs.YthomddbekiknjaaGreat
