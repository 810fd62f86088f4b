/- ways loaded and stored; lists of lists of steps kept apart from ways; the program's way of going stays within the places -/
import Derived.Test.YtedjbklejdcknaaG34
import Derived.Test.YtedjbklejdcknaaG35
import Derived.Test.YtedjbklejdcknaaG37
namespace Go.Proofs.Ytedjbklejdcknaa
open Go.RowKit
set_option linter.unusedVariables false
set_option linter.unusedSimpArgs false

/-- a whole way is loaded, wherever it lies -/
theorem loadWs (dst : Option Nat) (type : TypeId) (pos : String) (after : Array Edge) (guard : Option (Nat × Bool)) (x : Operand) (a : Act) (w : World) (next : Act → World → Prop) (Q : Exit → Act → World → Prop) :
    Oper.wp Try.prog ⟨dst, .load 82 x, type, pos, after, guard⟩ a w next Q = match a.eval x with
      | .pointer (some ad) => (match elemL w ad 0 12 with
        | some l => next (a.put dst (.agg l.toArray)) w
        | none => slowP (Oper.wp Try.prog ⟨dst, .load 82 x, type, pos, after, guard⟩ a w next Q))
      | _ => slowP (Oper.wp Try.prog ⟨dst, .load 82 x, type, pos, after, guard⟩ a w next Q) := by
  split
  · rename_i ad hx
    split
    · rename_i l hc
      obtain ⟨hn, hg⟩ := elemL_get hc
      have hl : (loadCells ad 12).run Try.prog w = .ok l.toArray w := by
        have := run_loadCells_list (P := Try.prog) w ad l (fun j v hj => by have := hg j v hj; rwa [Nat.zero_add] at this)
        rwa [hn] at this
      have ha : (isAgg 82).run Try.prog w = .ok true w := by kernel_rfl
      have hs : (sizeOf 82).run Try.prog w = .ok 12 w := by kernel_rfl
      have h : (loadVar 82 ad).run Try.prog w = .ok (.agg l.toArray) w := by
        simp [loadVar, ha, hs, Result.andThen, hl]
      have h2 : (Instr.loadAt 82 (.pointer (some ad))).run Try.prog w = .ok (.agg l.toArray) w := by
        rw [← h]; simp [Instr.loadAt, Instr.sureAddr]
      simp only [Oper.wp, execOp, hx, Sem.run_bind, h2, Result.andThen, Sem.run_pure, Oper.upon_value]
    · rfl
  · rfl
theorem storeW (dst : Option Nat) (type : TypeId) (pos : String) (after : Array Edge) (guard : Option (Nat × Bool)) (x y : Operand) (a : Act) (w : World) (next : Act → World → Prop) (Q : Exit → Act → World → Prop) :
    Oper.wp Try.prog ⟨dst, .store 82 x y, type, pos, after, guard⟩ a w next Q = match a.eval x, a.eval y with
      | .pointer (some ad), .agg cs => (match rowAt w ad with
        | some c => if c.size = 12 ∧ cs.size = 12 ∧ 12 ≠ 0 ∧ cs.toList.all Value.oneCell' = true then next (a.put dst undef) (setRow w ad.block cs) else slowP (Oper.wp Try.prog ⟨dst, .store 82 x y, type, pos, after, guard⟩ a w next Q)
        | none => slowP (Oper.wp Try.prog ⟨dst, .store 82 x y, type, pos, after, guard⟩ a w next Q))
      | _, _ => slowP (Oper.wp Try.prog ⟨dst, .store 82 x y, type, pos, after, guard⟩ a w next Q) := by
  split
  · rename_i ad cs hx hy
    split
    · rename_i c hc
      split
      · rename_i hn
        have h := run_storeAt_any Try.prog w 82 12 (by kernel_rfl) (.pointer (some ad)) (.agg cs)
        simp only [hc] at h
        rw [if_pos hn] at h
        simp only [Oper.wp, execOp, hx, hy, Sem.run_bind, h, Result.andThen, Sem.run_pure, Oper.upon_skip]
      · rfl
    · rfl
  · rfl
abbrev wvRow (p : WV) : Array Value := #[.int .i64 (p.1 : Int), .int .i64 p.2.f, .int .i64 p.2.k, .int .i64 p.2.t, .int .i64 p.2.a0, .int .i64 p.2.a1, .int .i64 p.2.a2, .int .i64 p.2.a3, .int .i64 p.2.b0, .int .i64 p.2.b1, .int .i64 p.2.b2, .int .i64 p.2.b3]
theorem row_elemW {w : World} {b : Nat} {p : WV} (h : rowOf w b = some (wvRow p)) : elemL w ⟨b, 0, none⟩ 0 12 = some (WV.enc p) :=
  elemL_of (l := WV.enc p) (i := 0) (fun j v hj => by
    rw [Addr.add_lit, Nat.zero_add, Nat.zero_add, rowOf_cell h]
    simpa [WV.enc, HV.enc] using hj)
theorem own_elemW {B : Nat} {w : World} {p : Option Addr} {n cap : Nat} {ys : List WV} (h : RWy.Own B w (.slice p n cap) ys) (j : Nat) (hj : j < ys.length) : ∃ g, p = some ⟨g, 0, none⟩ ∧ elemL w ⟨g, j * 12, none⟩ 0 12 = some (WV.enc ys[j]!) := by
  obtain ⟨h1, h2⟩ := h
  rcases h2 with ⟨e, hn⟩ | ⟨g, cap', cur, e, hB, hg, hc, hm, hs, ht⟩
  · omega
  · have hown : RWy.Own B w (.slice p n cap) ys := ⟨h1, .inr ⟨g, cap', cur, e, hB, hg, hc, hm, hs, ht⟩⟩
    simp only [Value.slice.injEq] at e
    obtain ⟨rfl, rfl, rfl⟩ := e
    refine ⟨g, rfl, ?_⟩
    rcases hown.is with ⟨rfl, _⟩ | ⟨_, b, off, cap'', e, hb, hr⟩
    · simp at hj
    · simp only [Value.slice.injEq, Option.some.injEq, Addr.mk.injEq, and_true, true_and] at e
      obtain ⟨⟨rfl, rfl⟩, _⟩ := e
      exact elemL_of (l := WV.enc ys[j]!) (i := 0) (fun i u hu => by
        rw [Addr.add_lit, Nat.zero_add]
        have := hr j hj i u hu
        rwa [Nat.zero_add] at this)
/-- rows of two kinds never share a block -/
theorem own_apart {α β : Type} {R : RowKind α} {S : RowKind β} (ht : R.tE ≠ S.tE) {B C : Nat} {w : World} {v u : Value} {xs : List α} {ys : List β} (h : R.Own B w v xs) (k : S.Own C w u ys) : ∀ i, v.ownBlock = some i → u.ownBlock ≠ some i := by
  intro i hi hu
  obtain ⟨_, ⟨rfl, _⟩ | ⟨g, cap, cur, rfl, _, hg, _⟩⟩ := h
  · cases hi
  · obtain ⟨_, ⟨rfl, _⟩ | ⟨g', cap', cur', rfl, _, hg', _⟩⟩ := k
    · cases hu
    · have e1 : g = i := Option.some.inj hi
      have e2 : g' = i := Option.some.inj hu
      subst e1; subst e2
      rw [hg] at hg'
      simp only [Option.some.injEq, Obj.cells.injEq] at hg'
      exact ht hg'.2.1
theorem way_hop : RWy.tE ≠ RHp.tE := by decide
theorem RowKind.Own.keepG {α : Type} {R : RowKind α} {B : Nat} {w w' : World} {v : Value} {xs : List α} {r : Option Nat} (h : R.Own B w v xs) (hg : w.grownBy w' r) (hne : ∀ i, v.ownBlock = some i → r ≠ some i) : R.Own B w' v xs :=
  h.keepJ fun l hl => hg.block l (h.lt l hl).2 fun e => hne l hl e.symm
namespace OHH
variable {B : Nat} {W W' : World} {blk : Nat} {svs : List SV} {rows : List (List HV)}
/-- another row has grown -/
theorem apart (h : OHH B W blk svs rows) {r : Option Nat} (hg : W.grownBy W' r) (h1 : r ≠ some blk) (h2 : ∀ m, m < svs.length → ∀ i, svs[m]!.val.ownBlock = some i → r ≠ some i) : OHH B W' blk svs rows :=
  ⟨h.lo, (hg.block blk h.lt fun e => h1 e.symm).trans h.heap, h.len, fun m hm => (h.own m hm).keepG hg (h2 m hm), h.ne, h.sep⟩
/-- one of the lists has turned in its own place -/
theorem turn (h : OHH B W blk svs rows) {m : Nat} (hm : m < svs.length) (hg : W.grownBy W' svs[m]!.val.ownBlock) {ys : List HV} (ho : RHp.Own B W' svs[m]!.val ys) : OHH B W' blk svs (rows.set m ys) := by
  refine ⟨h.lo, (hg.block blk h.lt fun e => h.ne m hm e.symm).trans h.heap, by rw [List.length_set]; exact h.len, fun j hj => ?_, h.ne, h.sep⟩
  rw [set_get _ _ _ _ (by rw [← h.len]; exact hm)]
  split
  · rename_i e
    subst e
    exact ho
  · rename_i hne
    exact (h.own j hj).keepG hg fun i hi e => h.sep m j hm hj hne i e hi
/-- ways lie in none of its blocks -/
theorem way_ne (h : OHH B W blk svs rows) {C : Nat} {u : Value} {ws : List WV} (k : RWy.Own C W u ws) : u.ownBlock ≠ some blk ∧ ∀ m, m < svs.length → ∀ i, svs[m]!.val.ownBlock = some i → u.ownBlock ≠ some i := by
  refine ⟨fun e => ?_, fun m hm i hi hu => own_apart (Ne.symm way_hop) (h.own m hm) k i hi hu⟩
  obtain ⟨_, ⟨rfl, _⟩ | ⟨g, cap, cur, rfl, _, hg, _⟩⟩ := k
  · cases e
  · have e : g = blk := Option.some.inj e
    subst e
    rw [h.heap] at hg
    simp only [Option.some.injEq, Obj.cells.injEq] at hg
    exact absurd hg.2.1 (by decide)
end OHH
theorem RowKind.Own.appendAnyBL {α : Type} [Inhabited α] {R : RowKind α} {ops : Array Oper} {rest : List Oper} {o : Oper} {a : Act} {Q : Exit → Act → World → Prop} {w : World} (hb0 : 0 < R.bytes) (hgd : o.guard = none) (s x : Operand)
    (ho : o.op = .call { callee := .builtin .append, args := #[s, x], argTypes := #[R.tS, R.tS] }) {B : Nat} {v vx : Value} {xs ys : List α} (hown : R.Own B w v xs) (hs : a.eval s = v)
    (hx : a.eval x = vx) (his : R.Is w vx ys) (hlen : (xs.length + ys.length) * R.bytes ≤ 140737488355328) (hbase : B ≤ w.heap.size)
    (h : ∀ v' w', R.Own B w' v' (xs ++ ys) → w.grownBy w' v.ownBlock → StaysOrNew w v v' → wpList Try.prog ops Q rest (a.put o.dst v') w') : wpList Try.prog ops Q (o :: rest) a w := by
  obtain ⟨v', w', hr, h1, h2, h3⟩ := run_appendAnyL hown his hb0 hlen hbase o.type
  exact wpList_plain hgd fun _ hK => wp_of_runB ho (by rw [hs, hx]; exact hr) (hK _ _ (h v' w' h1 h2 h3))
/-- the ways stay within the places -/
theorem biter_place {E : List NE} {N : Nat} (hE : ∀ e ∈ E, e.dst < N) {n : Nat} (hn : n < N) (h0 : HV) : ∀ k j, j < (biter E (bstart n N h0) k).ws.length → ((biter E (bstart n N h0) k).ws[j]!).1 < N
  | 0, j, hj => by
    have hj : j < 1 := hj
    obtain rfl : j = 0 := by omega
    exact hn
  | k + 1, j, hj => by
    have ih := biter_place hE hn h0 k
    revert hj
    show j < List.length (if _ then _ else _) → ((if _ then _ else _ : List WV)[j]!).1 < N
    generalize biter E (bstart n N h0) k = s at ih ⊢
    split
    · exact ih j
    · intro hj
      by_cases h1 : j < s.ws.length
      · rw [get_left _ _ h1]; exact ih j h1
      · rw [List.length_append] at hj
        rw [get_right _ _ (by omega) hj]
        have hmem : (longerW E (s.ws[k]!).1 (s.ws[k]!).2)[j - s.ws.length]! ∈ longerW E (s.ws[k]!).1 (s.ws[k]!).2 := by rw [getElem!_pos (longerW E (s.ws[k]!).1 (s.ws[k]!).2) (j - s.ws.length) (by omega)]; exact List.getElem_mem _
        obtain ⟨e, he, _, _, hpe⟩ := mem_longer.1 hmem
        rw [hpe]
        exact hE e he
theorem biter_succ (E : List NE) (s : BS) (k : Nat) {p : WV} (hp : (biter E s k).ws[k]! = p) : (biter E s (k + 1)).ws = (if putNo (biter E s k).low[p.1]! p.2 = true then (biter E s k).ws else (biter E s k).ws ++ longerW E p.1 p.2) ∧
    (biter E s (k + 1)).low = (biter E s k).low.set p.1 (putL (biter E s k).low[p.1]! p.2) := by
  subst hp
  exact ⟨rfl, rfl⟩
end Go.Proofs.Ytedjbklejdcknaa
/- an append to one of the lists of a list of lists, and the store of what came of it -/
namespace Go.Proofs.Ytedjbklejdcknaa
open Go.RowKit
set_option linter.unusedVariables false
set_option linter.unusedSimpArgs false

theorem RHp_lit (w : World) (h : HV) : RHp.Own w.heap.size (w.alloc (.cells (hvRow h) 39)) (.slice (some ⟨w.heap.size, 0, none⟩) 1 1) [h] :=
  ⟨rfl, .inr ⟨w.heap.size, 1, hvRow h, rfl, Nat.le_refl _, heap_alloc_new w _, Nat.le_refl 1, by decide, rfl, rfl⟩⟩
theorem OHH.drew {B : Nat} {W : World} {blk : Nat} {svs : List SV} {rows : List (List HV)} (h : OHH B W blk svs rows) : OHH B W.drew blk svs rows := ⟨h.lo, h.heap, h.len, h.own, h.ne, h.sep⟩
/-- an append to one of the lists, and the store of what came of it -/
theorem OHH.grow {B : Nat} {W W' : World} {blk : Nat} {svs : List SV} {rows : List (List HV)} (h : OHH B W blk svs rows) (hB : B ≤ W.heap.size) {m : Nat} (hm : m < svs.length) {v : Value} {ys : List HV} (hg : W.grownBy W' svs[m]!.val.ownBlock)
    (ho : RHp.Own B W' v ys) (hn : StaysOrNew W svs[m]!.val v) : ∃ s : SV, v = s.val ∧ OHH B (W'.setCell ⟨blk, m, none⟩ v) blk (svs.set m s) (rows.set m ys) := by
  obtain ⟨p, c, e⟩ := ho.is.slice
  refine ⟨⟨p, ys.length, c⟩, e, ?_⟩
  have e2 : v = (⟨p, ys.length, c⟩ : SV).val := e
  rw [e2] at ho hn ⊢
  exact h.put hB hm hg.size (fun l hl hne => hg.block l hl (fun q => hne q.symm)) ho hn
theorem setCell_alloc {w : World} (b i : Nat) (v : Value) (o : Obj) (h : b < w.heap.size) : (w.setCell ⟨b, i, none⟩ v).alloc o = (w.alloc o).setCell ⟨b, i, none⟩ v := by
  unfold World.setCell World.alloc
  congr 1
  apply Array.ext_getElem?
  intro k
  simp only [Array.getElem?_modify, Array.getElem?_push, Array.size_modify]
  by_cases hk : k = w.heap.size
  · subst hk
    simp [Nat.ne_of_lt h]
  · simp [hk]
/-- what the world is behind an append to one of the lists, ahead of the store and behind it -/
structure OGrown (B : Nat) (W w5 : World) (blk m : Nat) (svs : List SV) (rows : List (List HV)) (v : Value) (ys : List HV) : Prop where
  cell : w5.cell? ⟨blk, m, none⟩ = some svs[m]!.val
  frozen : w5.frozen? ⟨blk, m, none⟩ = false
  old : ∀ b o x, b < B → W.cell? ⟨b, o, none⟩ = some x → w5.cell? ⟨b, o, none⟩ = some x
  new : ∃ s : SV, v = s.val ∧ OHH B (w5.setCell ⟨blk, m, none⟩ v) blk (svs.set m s) (rows.set m ys)
  below : Below B W (w5.setCell ⟨blk, m, none⟩ v)
  box : ∀ k c t, Boxed W k c t → t ≠ 39 → t ≠ 34 → Boxed (w5.setCell ⟨blk, m, none⟩ v) k c t
theorem OHH.app {B : Nat} {W w5 : World} {blk : Nat} {svs : List SV} {rows : List (List HV)} (h : OHH B W blk svs rows) (hB : B ≤ W.heap.size) {m : Nat} (hm : m < svs.length) {v : Value} {ys : List HV} (hg : W.grownBy w5 svs[m]!.val.ownBlock)
    (ho : RHp.Own B w5 v ys) (hn : StaysOrNew W svs[m]!.val v) : OGrown B W w5 blk m svs rows v ys := by
  have hlt := (h.own m hm).lt
  have hbl : w5.heap[blk]? = W.heap[blk]? := hg.block blk h.lt (fun e => h.ne m hm e.symm)
  refine ⟨?_, ?_, fun b o x hb hx => ?_, h.grow hB hm hg ho hn, ?_, fun k c t hbx h1 h2 => ?_⟩
  · rw [← h.cell m hm]
    unfold World.cell?
    rw [hbl]
  · rw [← h.frozen m]
    unfold World.frozen?
    rw [hbl]
  · rw [← hx]
    unfold World.cell?
    rw [hg.block b (by omega) (fun e => by have := (hlt b e.symm).1; omega)]
  · exact ((Below.refl B W).grown hg hB (fun k hk => (hlt k hk).1)).setCell (by show B ≤ blk; exact h.lo) v
  · have hne := (h.own m hm).ne_boxed hbx h1
    have hkb : k ≠ blk := fun e => by
      subst e
      have a := h.heap
      unfold Boxed at hbx
      rw [hbx] at a
      simp only [Option.some.injEq, Obj.cells.injEq] at a
      exact h2 a.2.1
    exact (Below.heap_setCell w5 ⟨blk, m, none⟩ v k hkb).trans ((hg.block k hbx.lt hne).trans hbx)
end Go.Proofs.Ytedjbklejdcknaa
