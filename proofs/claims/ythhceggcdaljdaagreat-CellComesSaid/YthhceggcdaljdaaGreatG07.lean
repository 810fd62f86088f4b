/- slots in a row of the call's own, apart from their bags; Clone of slots -/
import Derived.Test.YthhceggcdaljdaaGreatG05
import Derived.Test.YthhceggcdaljdaaGreatG06
import Derived.Laws.Cover3
import Derived.Deep.CutRange
namespace Go.Proofs.YthhceggcdaljdaaGreat
open Go.RowKit
set_option linter.unusedVariables false
set_option linter.unusedSimpArgs false

/-- that slice is empty, or lies in an old block, or in one of items -/
def offK (B : Nat) (w : World) (p : Option Addr) (n : Nat) : Prop := n ≠ 0 → ∀ b o, p = some ⟨b, o, none⟩ → b < B ∨ ∃ cur, w.heap[b]? = some (.cells cur 57 (0, 0))
structure ApartS (B : Nat) (w : World) (x : SW) : Prop where
  p0 : offK B w x.p0 x.n0
  p1 : offK B w x.p1 x.n1
  p2 : offK B w x.p2 x.n2
theorem own_ne {B : Nat} {w : World} {v : Value} {xs : List SW} (h : RSl.Own B w v xs) {b : Nat} (hb : b < B ∨ ∃ cur, w.heap[b]? = some (.cells cur 57 (0, 0))) : v.ownBlock ≠ some b := by
  obtain ⟨_, ⟨rfl, _⟩ | ⟨g, cap, cur, rfl, hB, hg, _⟩⟩ := h
  · intro e; cases e
  · intro e
    have e : g = b := Option.some.inj e
    subst e
    rcases hb with hb | ⟨cur2, hc⟩
    · omega
    · rw [hg] at hc
      simp only [Option.some.injEq, Obj.cells.injEq] at hc
      exact absurd hc.2.1 (by decide)
theorem offK.grown {B : Nat} {w w' : World} {v : Value} {xs : List SW} {p : Option Addr} {n : Nat} (h : offK B w p n) (ho : RSl.Own B w v xs) (hg : w.grownBy w' v.ownBlock) : offK B w' p n := fun hn b o e => by
  have q := h hn b o e
  have hne := own_ne ho q
  rcases q with q | ⟨cur, hc⟩
  · exact .inl q
  · exact .inr ⟨cur, (hg.block b (Array.getElem?_eq_some_iff.1 hc).1 (fun e => hne e.symm)).trans hc⟩
theorem offK.below {B : Nat} {w w' : World} {p : Option Addr} {n : Nat} (h : offK B w p n) (hb : Below w.heap.size w w') : offK B w' p n := fun hn b o e => by
  rcases h hn b o e with q | ⟨cur, hc⟩
  · exact .inl q
  · exact .inr ⟨cur, (hb.block b (Array.getElem?_eq_some_iff.1 hc).1).trans hc⟩
theorem offK.mono {B B' : Nat} {w : World} {p : Option Addr} {n : Nat} (h : offK B w p n) (hB : B ≤ B') : offK B' w p n := fun hn b o e => by
  rcases h hn b o e with q | q
  · exact .inl (by omega)
  · exact .inr q
theorem ApartS.grown {B : Nat} {w w' : World} {v : Value} {xs : List SW} {x : SW} (h : ApartS B w x) (ho : RSl.Own B w v xs) (hg : w.grownBy w' v.ownBlock) : ApartS B w' x := ⟨h.p0.grown ho hg, h.p1.grown ho hg, h.p2.grown ho hg⟩
theorem ApartS.below {B : Nat} {w w' : World} {x : SW} (h : ApartS B w x) (hb : Below w.heap.size w w') : ApartS B w' x := ⟨h.p0.below hb, h.p1.below hb, h.p2.below hb⟩
theorem is_off {B : Nat} {w w' : World} {v : Value} {xs : List SW} {p : Option Addr} {n c : Nat} {l : List IV} (h : RI.Is w (.slice p n c) l) (ha : offK B w p n) (ho : RSl.Own B w v xs) (hg : w.grownBy w' v.ownBlock) : RI.Is w' (.slice p n c) l := by
  rcases h with h | ⟨h0, b, off, cap, e, hb, hr⟩
  · exact .inl h
  · refine .inr ⟨h0, b, off, cap, e, Nat.lt_of_lt_of_le hb hg.size, fun j hj i u hu => ?_⟩
    simp only [Value.slice.injEq] at e
    obtain ⟨e1, e2, e3⟩ := e
    have hn : n ≠ 0 := by rw [e2]; intro q; exact h0 (List.eq_nil_of_length_eq_zero q)
    have := hr j hj i u hu
    rw [← this]
    exact World.cell?_of_block (hg.block b hb (fun q => own_ne ho (ha hn b off e1) q.symm))
theorem isSl.off {B : Nat} {w w' : World} {v : Value} {xs : List SW} {x : SW} {b : SV} (h : isSl w x b) (ha : ApartS B w x) (ho : RSl.Own B w v xs) (hg : w.grownBy w' v.ownBlock) : isSl w' x b :=
  ⟨h.t, h.d, h.f, h.n0, h.k0, is_off h.l0 ha.p0 ho hg, h.n1, h.k1, is_off h.l1 ha.p1 ho hg, h.n2, h.k2, is_off h.l2 ha.p2 ho hg⟩
/-- what is there lies in blocks that are there -/
theorem is_offK {w W : World} {p : Option Addr} {n c : Nat} {l : List IV} (h : RI.Is w (.slice p n c) l) : offK w.heap.size W p n := fun hn b o e => by
  rcases h with ⟨h0, _, _, e1, _⟩ | ⟨h0, b', off', cap, e1, hb, hr⟩
  · simp only [Value.slice.injEq] at e1
    exact absurd (by rw [e1.2.1]) hn
  · simp only [Value.slice.injEq] at e1
    rw [e] at e1
    simp only [Option.some.injEq, Addr.mk.injEq] at e1
    exact .inl (by omega)
theorem own_offK {B B' : Nat} {w : World} {p : Option Addr} {n c : Nat} {l : List IV} (h : RI.Own B w (.slice p n c) l) : offK B' w p n := fun hn b o e => by
  obtain ⟨_, ⟨h1, h2⟩ | ⟨g, cap, cur, h1, hB, hg, _⟩⟩ := h
  · simp only [Value.slice.injEq] at h1
    exact absurd h1.2.1 hn
  · simp only [Value.slice.injEq] at h1
    rw [e] at h1
    simp only [Option.some.injEq, Addr.mk.injEq] at h1
    exact .inr ⟨cur, by rw [h1.1.1]; exact hg⟩
theorem isSl.apart {w W : World} {x : SW} {b : SV} (h : isSl w x b) : ApartS w.heap.size W x := ⟨is_offK h.l0, is_offK h.l1, is_offK h.l2⟩
/-- slots in a row of the call's own, their bags apart from it -/
structure OwnC (B : Nat) (w : World) (v : Value) (xs : List SW) (c : List SV) : Prop where
  own : RSl.Own B w v xs
  are : areSl w xs c
  off : ∀ x ∈ xs, ApartS B w x
theorem OwnC.below {B : Nat} {w w' : World} {v : Value} {xs : List SW} {c : List SV} (h : OwnC B w v xs c) (hb : Below w.heap.size w w') : OwnC B w' v xs c := ⟨h.own.below hb, h.are.below hb, fun x hx => (h.off x hx).below hb⟩
theorem OwnC.is {B : Nat} {w : World} {v : Value} {xs : List SW} {c : List SV} (h : OwnC B w v xs c) : IsCl w v c := ⟨xs, h.own.is, h.are⟩
theorem OwnC.len {B : Nat} {w : World} {v : Value} {xs : List SW} {c : List SV} (h : OwnC B w v xs c) : xs.length = c.length := h.are.1
theorem ownCapC {B : Nat} {w : World} {v : Value} {xs : List SW} (h : RSl.Own B w v xs) : capOk v := by
  obtain ⟨_, ⟨rfl, _⟩ | ⟨g, cap, cur, rfl, _, _, hle, _⟩⟩ := h
  · intro p n c e; cases e; exact Nat.le_refl _
  · intro p n c e; cases e; exact hle
/-- a copy of a cell -/
theorem OwnC.copy {w w' : World} {v : Value} {xs : List SW} {c : List SV} (h : RSl.Own w.heap.size w' v xs) (ha : areSl w xs c) (hb : Below w.heap.size w w') : OwnC w.heap.size w' v xs c :=
  ⟨h, ha.below hb, fun x hx => by
    obtain ⟨j, hj, rfl⟩ := List.mem_iff_getElem.1 hx
    have := (ha.2 j (by rw [← ha.1]; exact hj)).apart (W := w')
    rwa [getElem!_pos xs j hj] at this⟩
/-- the row was changed: of what it holds now each slot is one that was there, or is given anew -/
theorem areSl.off {B : Nat} {w w' : World} {v : Value} {xs : List SW} {c : List SV} (h : OwnC B w v xs c) (hg : w.grownBy w' v.ownBlock) : areSl w' xs c ∧ ∀ x ∈ xs, ApartS B w' x :=
  ⟨⟨h.are.1, fun i hi => (h.are.2 i hi).off (h.off _ (by rw [getElem!_pos xs i (by rw [h.are.1]; exact hi)]; exact List.getElem_mem _)) h.own hg⟩, fun x hx => (h.off x hx).grown h.own hg⟩
/-- one slot is put anew -/
theorem areSl_set {w : World} {xs : List SW} {c : List SV} (h : areSl w xs c) {i : Nat} {x : SW} {b : SV} (hx : isSl w x b) : areSl w (xs.set i x) (c.set i b) := by
  refine ⟨by rw [List.length_set, List.length_set]; exact h.1, fun j hj => ?_⟩
  rw [List.length_set] at hj
  have hj2 : j < xs.length := by rw [h.1]; exact hj
  by_cases e : i = j
  · subst e
    rw [getElem!_pos _ _ (by rw [List.length_set]; exact hj2), getElem!_pos _ _ (by rw [List.length_set]; exact hj), List.getElem_set_self, List.getElem_set_self]
    exact hx
  · rw [getElem!_pos _ _ (by rw [List.length_set]; exact hj2), getElem!_pos _ _ (by rw [List.length_set]; exact hj), List.getElem_set_ne e, List.getElem_set_ne e, ← getElem!_pos xs j hj2, ← getElem!_pos c j hj]
    exact h.2 j hj
theorem areSl_erase {w : World} {xs : List SW} {c : List SV} (h : areSl w xs c) (i : Nat) : areSl w (xs.eraseIdx i) (c.eraseIdx i) := by
  have hl := h.1
  refine ⟨by rw [List.length_eraseIdx, List.length_eraseIdx, hl], fun j hj => ?_⟩
  have hj2 : j < (xs.eraseIdx i).length := by rw [List.length_eraseIdx, hl, ← List.length_eraseIdx]; exact hj
  have hjc : j < c.length := Nat.lt_of_lt_of_le hj (List.length_eraseIdx_le _ _)
  have hj3 : ∀ h : ¬ j < i, j + 1 < c.length := fun hn => by
    rw [List.length_eraseIdx] at hj
    split at hj <;> omega
  rw [getElem!_pos (xs.eraseIdx i) j hj2, getElem!_pos (c.eraseIdx i) j hj, List.getElem_eraseIdx, List.getElem_eraseIdx]
  split
  · rw [← getElem!_pos xs j (by omega), ← getElem!_pos c j hjc]
    exact h.2 j hjc
  · rename_i hn
    rw [← getElem!_pos xs (j + 1) (by have := hj3 hn; omega), ← getElem!_pos c (j + 1) (hj3 hn)]
    exact h.2 (j + 1) (hj3 hn)
theorem areSl_ins {w : World} {xs : List SW} {c : List SV} (h : areSl w xs c) {i : Nat} (hi : i ≤ c.length) {x : SW} {b : SV} (hx : isSl w x b) : areSl w (xs.take i ++ x :: xs.drop i) (c.take i ++ b :: c.drop i) := by
  have hl := h.1
  have l1 : (xs.take i).length = i := by rw [List.length_take]; omega
  have l2 : (c.take i).length = i := by rw [List.length_take]; omega
  refine ⟨by simp only [List.length_append, List.length_cons, List.length_take, List.length_drop, hl], fun j hj => ?_⟩
  have hj2 : j < (xs.take i ++ x :: xs.drop i).length := by
    simp only [List.length_append, List.length_cons, List.length_take, List.length_drop] at hj ⊢
    omega
  rw [getElem!_pos (xs.take i ++ x :: xs.drop i) j hj2, getElem!_pos (c.take i ++ b :: c.drop i) j hj]
  simp only [List.length_append, List.length_cons, List.length_take, List.length_drop] at hj
  by_cases e : j < i
  · rw [List.getElem_append_left (by omega), List.getElem_append_left (by omega), List.getElem_take, List.getElem_take, ← getElem!_pos xs j (by omega), ← getElem!_pos c j (by omega)]
    exact h.2 j (by omega)
  · rw [List.getElem_append_right (by omega), List.getElem_append_right (by omega)]
    by_cases e2 : j = i
    · subst e2
      simp only [l1, l2, Nat.sub_self, List.getElem_cons_zero]
      exact hx
    · obtain ⟨k, rfl⟩ : ∃ k, j = i + 1 + k := ⟨j - i - 1, by omega⟩
      have a1 : i + 1 + k - (xs.take i).length = k + 1 := by omega
      have a2 : i + 1 + k - (c.take i).length = k + 1 := by omega
      simp only [a1, a2, List.getElem_cons_succ, List.getElem_drop]
      rw [← getElem!_pos xs (i + k) (by omega), ← getElem!_pos c (i + k) (by omega)]
      exact h.2 (i + k) (by omega)
theorem heap_setCell1 {w : World} {g : Nat} {cur : Array Value} {t : TypeId} (hg : w.heap[g]? = some (.cells cur t (0, 0))) (o : Nat) (u : Value) : (w.setCell ⟨g, o, none⟩ u).heap[g]? = some (.cells (cur.setIfInBounds o u) t (0, 0)) := by
  unfold World.setCell
  simp only [Array.getElem?_modify, if_true, hg]
  rfl
/-- one cell of an element is stored -/
theorem RowKind.Own.setOne {α : Type} [Inhabited α] {R : RowKind α} {B : Nat} {w : World} {g n cap : Nat} {xs : List α} (h : R.Own B w (.slice (some ⟨g, 0, none⟩) n cap) xs) {i j : Nat} (hi : i < xs.length) (hj : j < R.k) {x : α} {u : Value} (he : R.enc x = (R.enc xs[i]!).set j u) {o : Nat} (ho : o = i * R.k + j) : R.Own B (w.setCell ⟨g, o, none⟩ u) (.slice (some ⟨g, 0, none⟩) n cap) (xs.set i x) := by
  subst ho
  obtain ⟨cur, hg, hn, hB, hc, hm, hs, ht⟩ := h.row
  have hset := h.setAt hi x hg
  obtain ⟨cur2, hg2, hn2, _, hc2, hm2, hs2, ht2⟩ := hset.row
  rw [RowKind.heap_set hg] at hg2
  simp only [Option.some.injEq, Obj.cells.injEq, and_true] at hg2
  have hle : (i + 1) * R.k ≤ cap * R.k := Nat.mul_le_mul_right _ (by omega)
  rw [Nat.add_mul, Nat.one_mul] at hle
  have hle2 : (i + 1) * R.k ≤ xs.length * R.k := Nat.mul_le_mul_right _ (by omega)
  rw [Nat.add_mul, Nat.one_mul] at hle2
  have hk0 := R.k0
  have hcur : cur.setIfInBounds (i * R.k + j) u = cur2 := by
    rw [← hg2]
    refine Array.ext_getElem? fun t => ?_
    rw [get_putFrom _ _ _ _ (by rw [R.len]; omega), R.len, Array.getElem?_setIfInBounds, he]
    by_cases e1 : i * R.k ≤ t ∧ t < i * R.k + R.k
    · rw [if_pos e1, List.getElem?_set]
      by_cases e2 : i * R.k + j = t
      · rw [if_pos e2, if_pos (by omega), if_pos (by omega), if_pos (by rw [R.len]; omega)]
      · rw [if_neg e2, if_neg (by omega)]
        have q := R.cells_get xs i hi (t - i * R.k) (by omega)
        rw [← q, ← ht, List.getElem?_take, if_pos (by omega), Array.getElem?_toList]
        congr 1
        omega
    · rw [if_neg e1, if_neg (by omega)]
  refine ⟨R.cells_len _, .inr ⟨g, cap, cur2, by rw [hn2], hB, by rw [← hcur]; exact heap_setCell1 hg _ _, hc2, hm2, hs2, ht2⟩⟩
theorem grown_setCell (w : World) (g o : Nat) (u : Value) : w.grownBy (w.setCell ⟨g, o, none⟩ u) (some g) := by
  refine ⟨rfl, rfl, rfl, by simp [World.setCell], fun i hi hne => ?_⟩
  have : g ≠ i := fun e => hne (by rw [e])
  unfold World.setCell
  simp [Array.getElem?_modify, this]
/-- one cell of a slot is stored -/
theorem OwnC.setOne {B : Nat} {w : World} {g n cap : Nat} {xs : List SW} {c : List SV} (h : OwnC B w (.slice (some ⟨g, 0, none⟩) n cap) xs c) {i j o : Nat} (hi : i < xs.length) (hj : j < 10) (ho : o = i * 10 + j) {x : SW} {b : SV} {u : Value} (he : SW.enc x = (SW.enc xs[i]!).set j u) (hx : isSl w x b) (ha : ApartS B w x) : OwnC B (w.setCell ⟨g, o, none⟩ u) (.slice (some ⟨g, 0, none⟩) n cap) (xs.set i x) (c.set i b) ∧ w.grownBy (w.setCell ⟨g, o, none⟩ u) (some g) := by
  have hg := grown_setCell w g o u
  have hq := areSl.off h hg
  refine ⟨⟨RowKind.Own.setOne (R := RSl) h.own hi hj he ho, areSl_set hq.1 (hx.off ha h.own hg), fun y hy => ?_⟩, hg⟩
  rcases List.mem_or_eq_of_mem_set hy with hy | rfl
  · exact hq.2 y hy
  · exact ha.grown h.own hg
theorem eqNilC (a : Option Addr) (l c : Nat) (w : World) : (binOp .eql 22 (.slice a l c) (.slice none 0 0)).run Tryz.prog w = .ok (.bool a.isNone) w := by
  simp only [binOp]
  simp [run_equal_slice_nil w _ _ a l c Tryz.underlying22]
attribute [local go_sem ↓] eqNilC
set_option maxRecDepth 100000 in
set_option maxHeartbeats 4000000 in
theorem pcloneC_any (xs : List SW) (v : Value) (w : World) (hl : xs.length ≤ 900000) (h : RSl.Is w v xs) : Calls Tryz.prog 46 #[v] w (RSl.Made xs w) := by
  obtain ⟨p, c, rfl⟩ := h.slice
  have HI := Lib.hid h
  cases p with
  | none =>
    have hx : xs = [] ∧ c = 0 := by
      rcases h with ⟨hx, q, d, e, hq⟩ | ⟨_, b, off, cap, e, _⟩
      · simp only [Value.slice.injEq] at e
        obtain ⟨rfl, _, rfl⟩ := e
        exact ⟨hx, hq rfl⟩
      · cases e
    obtain ⟨rfl, rfl⟩ := hx
    clear h HI
    show Calls _ _ #[.slice none 0 0] _ _
    clear hl
    go_enter Tryz.func46, Tryz.ntmps46
    go_wp2
    go_returns
    exact ⟨_, rfl, RowKind.Own.nil RSl _ _, Below.refl _ _⟩
  | some ad =>
    clear h
    have HO := Lib.hid (show RSl.Own w.heap.size (w.alloc (.cells #[] 40)) (.slice (some ⟨w.heap.size, 0, none⟩) 0 0) [] from World.ownsRow_made w #[] 0 (Nat.le_refl _) (Nat.zero_le _) rfl)
    have HB := Lib.hid ((Below.refl w.heap.size w).alloc (Nat.le_refl _) (.cells #[] 40))
    have HL : Hid (([] : List SW).length + xs.length ≤ 1000000) := by show _ ≤ _; simp; omega
    have HZ := Lib.hid HB.out.size
    have HI2 := Lib.hid (HI.out.below HB.out)
    generalize xs.length = n at HI HI2 ⊢
    go_enter Tryz.func46, Tryz.ntmps46
    go_wp2_with (at_builtin; refine RowKind.Own.appendAny (R := RSl) (ys := xs) HO.out HB.out HZ.out rfl _ _ rfl rfl rfl HI2.out HL.out ?_; intro v2 w2 hO2 hB2 hz2)
    have HO2 := Lib.hid hO2; have HB2 := Lib.hid hB2
    go_returns
    exact ⟨_, rfl, HO2.out, HB2.out⟩
end Go.Proofs.YthhceggcdaljdaaGreat
/- layer 15's law: Short, low -/
namespace Go.Proofs.YthhceggcdaljdaaGreat
open Go.RowKit
set_option linter.unusedVariables false
set_option linter.unusedSimpArgs false

def shortC (c : List SV) : Bool := decide (c.length ≤ 40 ∧ ∀ j, j < c.length → (c[j]!).a.length ≤ 40 ∧ (c[j]!).b.length ≤ 40 ∧ (c[j]!).s.length ≤ 40)
set_option maxRecDepth 100000 in
set_option maxHeartbeats 8000000 in
theorem cshort_any (c : List SV) (v : Value) (w : World) (h : IsCl w v c) : Calls Tryz.prog 9 #[v] w (Ret (.bool (shortC c)) w) := by
  obtain ⟨xs, hx0, hx1⟩ := h
  have HAr := Lib.hid hx1
  obtain ⟨p, k0, rfl, ho⟩ := isOpenedD hx0
  have HO := Lib.hid ho
  have HXn : Hid (xs.length = c.length) := hx1.1
  clear hx0 hx1 ho
  by_cases hlong : 40 < xs.length
  · have d1 : decide ((40 : Int) < (xs.length : Int)) = true := decide_eq_true (by omega)
    have HR : Hid (shortC c = false) := decide_eq_false fun q => by have := HXn.out; omega
    clear hlong
    go_enter Tryz.func9, Tryz.ntmps9
    go_wp2
    go_returns
    exact ⟨ret_bool HR.out.symm, Below.refl _ _⟩
  · have d1 : decide ((40 : Int) < (xs.length : Int)) = false := decide_eq_false (by omega)
    have hn40 : xs.length ≤ 40 := by omega
    clear hlong
    go_enter Tryz.func9, Tryz.ntmps9
    go_wp2_with fail
    go_loopg [3] xs.length (fun gg i wr => ∃ k : Nat, k ≤ xs.length ∧ xs.length - k ≤ gg ∧ i = .int .i64 (k : Int) ∧ Hid (Below w.heap.size w wr) ∧ Hid (∀ j, j < k → (c[j]!).a.length ≤ 40 ∧ (c[j]!).b.length ≤ 40 ∧ (c[j]!).s.length ≤ 40))
    case atStart => exact ⟨0, Nat.zero_le _, by omega, rfl, Below.refl _ _, fun j hj => absurd hj (Nat.not_lt_zero j)⟩
    case round =>
      obtain ⟨k, hk, hg, rfl, HB, HM⟩ := hrel
      by_cases hlt : k < xs.length
      · have hkz : (k : Int) < (xs.length : Int) := by omega
        have hkc : k < c.length := by have := HXn.out; omega
        obtain ⟨b, off, rfl, hb, hrow⟩ := HO.out k hlt
        obtain ⟨e0, e1, e2, e3, e4, e5, e6, e7, e8, e9⟩ := atSl (hrow.below HB.out hb) k hlt
        have hx := HAr.out.2 k hkc
        have hn0 := hx.n0
        have hn1 := hx.n1
        have hn2 := hx.n2
        have HNo : Hid (¬ ((c[k]!).a.length ≤ 40 ∧ (c[k]!).b.length ≤ 40 ∧ (c[k]!).s.length ≤ 40) → shortC c = false) := fun q => decide_eq_false fun r => q (r.2 k hkc)
        have HYes : Hid ((c[k]!).a.length ≤ 40 ∧ (c[k]!).b.length ≤ 40 ∧ (c[k]!).s.length ≤ 40 → ∀ j, j < k + 1 → (c[j]!).a.length ≤ 40 ∧ (c[j]!).b.length ≤ 40 ∧ (c[j]!).s.length ≤ 40) := fun q j hj => by
          by_cases e : j = k
          · subst e; exact q
          · exact HM.out j (by omega)
        generalize xs[k]! = x at *
        obtain ⟨xt, p0, n0, c0, p1, n1, c1, p2, n2, c2, xd, xf⟩ := x
        simp only at e5 e6 e7 hn0 hn1 hn2
        rw [← hn0, ← hn1, ← hn2] at HNo HYes
        clear e0 e1 e2 e3 e4 e8 e9 hx hrow hn0 hn1 hn2 HM
        by_cases h0 : 40 < n0
        · have d2 : decide ((40 : Int) < (n0 : Int)) = true := decide_eq_true (by omega)
          have HR := Lib.hid (HNo.out (by omega))
          clear HNo HYes h0
          go_wp2
          go_returns
          exact ⟨ret_bool HR.out.symm, HB.out⟩
        · have d2 : decide ((40 : Int) < (n0 : Int)) = false := decide_eq_false (by omega)
          by_cases h1 : 40 < n1
          · have d3 : decide ((40 : Int) < (n1 : Int)) = true := decide_eq_true (by omega)
            have HR := Lib.hid (HNo.out (by omega))
            clear HNo HYes h0 h1
            go_wp2
            go_returns
            exact ⟨ret_bool HR.out.symm, HB.out⟩
          · have d3 : decide ((40 : Int) < (n1 : Int)) = false := decide_eq_false (by omega)
            by_cases h2 : 40 < n2
            · have d4 : decide ((40 : Int) < (n2 : Int)) = true := decide_eq_true (by omega)
              have HR := Lib.hid (HNo.out (by omega))
              clear HNo HYes h0 h1 h2
              go_wp2
              go_returns
              exact ⟨ret_bool HR.out.symm, HB.out⟩
            · have d4 : decide ((40 : Int) < (n2 : Int)) = false := decide_eq_false (by omega)
              have HY := Lib.hid (HYes.out ⟨by omega, by omega, by omega⟩)
              clear HNo HYes h0 h1 h2
              go_wp2
              go_roundg (xs.length - (k + 1))
              case measure => omega
              case rel => exact ⟨k + 1, by omega, by omega, by go_num, HB.out, HY.out⟩
      · obtain rfl : k = xs.length := by omega
        have HR : Hid (shortC c = true) := decide_eq_true ⟨by have := HXn.out; omega, fun j hj => HM.out j (by have := HXn.out; omega)⟩
        go_wp2
        go_returns
        exact ⟨ret_bool HR.out.symm, HB.out⟩
def lowI (l : List IV) : Prop := ∀ j, j < l.length → -1073741824 ≤ (l[j]!).n ∧ (l[j]!).n ≤ 1073741824
instance (l : List IV) : Decidable (lowI l) := by unfold lowI; infer_instance
def lowC (c : List SV) : Bool := decide (∀ j, j < c.length → lowI (c[j]!).a ∧ lowI (c[j]!).b)
theorem lowC_low {c : List SV} (h : lowC c = true) : LowS c := fun x hx => by
  obtain ⟨j, hj, rfl⟩ := List.mem_iff_getElem.1 hx
  have q := of_decide_eq_true h j hj
  rw [getElem!_pos c j hj] at q
  refine ⟨fun i hi => ?_, fun i hi => ?_⟩
  · obtain ⟨k, hk, rfl⟩ := List.mem_iff_getElem.1 hi
    have := q.1 k hk
    rwa [getElem!_pos _ k hk] at this
  · obtain ⟨k, hk, rfl⟩ := List.mem_iff_getElem.1 hi
    have := q.2 k hk
    rwa [getElem!_pos _ k hk] at this
end Go.Proofs.YthhceggcdaljdaaGreat
/- cells as plain facts: whether a record may come; what is stale; two records in whatever order -/
namespace Go.Proofs.YthhceggcdaljdaaGreat
open Go.RowKit
set_option linter.unusedVariables false
set_option linter.unusedSimpArgs false

instance (c : List SV) : Decidable (GoodSl c) := by unfold GoodSl; infer_instance
def rightSl (c : List SV) : Bool := decide (GoodSl c)
def comeOk (c : List SV) (port : Int) (t : TV) (n : Int) : Bool := t.ok && (rightSl c && decide ((port = 0 ∨ port = 1) ∧ n ≠ 0 ∧ n ≤ 2147483648 ∧ -2147483648 ≤ n))
def comeF (c : List SV) (kind port : Int) (t : TV) (r : RV) (n : Int) : List SV := if comeOk c port t n = true then comeS c kind port t r n else c
def staleL (c : List SV) : List TV := if rightSl c = true then (c.filter (·.dirty)).map (·.t) else []
theorem comeOk_iff (c : List SV) (port : Int) (t : TV) (n : Int) : comeOk c port t n = true ↔ t.ok = true ∧ GoodSl c ∧ (port = 0 ∨ port = 1) ∧ n ≠ 0 ∧ n ≤ 2147483648 ∧ -2147483648 ≤ n := by
  unfold comeOk rightSl
  rw [Bool.and_eq_true, Bool.and_eq_true, decide_eq_true_iff, decide_eq_true_iff]
theorem comeF_right (c : List SV) (kind port : Int) (t : TV) (r : RV) (n : Int) : rightSl (comeF c kind port t r n) = rightSl c := by
  unfold comeF
  split
  · rename_i h
    have h2 := (comeOk_iff c port t n).1 h
    exact (decide_eq_true (comeS_good h2.2.1 h2.1 kind port r n)).trans (decide_eq_true h2.2.1).symm
  · rfl
theorem comeF_ok (c : List SV) (kind port : Int) (t : TV) (r : RV) (n : Int) (p : Int) (u : TV) (m : Int) : comeOk (comeF c kind port t r n) p u m = comeOk c p u m := by
  unfold comeOk
  rw [comeF_right]
theorem nf_right (c : List SV) : rightSl (c.map nfS) = rightSl c := by
  unfold rightSl
  refine decide_eq_decide.2 ⟨fun h => ⟨fun x hx => ?_, ?_⟩, nf_good⟩
  · exact h.1 (nfS x) (List.mem_map_of_mem hx)
  · exact (List.pairwise_map.1 h.2)
theorem nf_stale (c : List SV) : staleL (c.map nfS) = staleL c := by
  unfold staleL
  rw [nf_right]
  split
  · rename_i hc; clear hc
    induction c with
    | nil => rfl
    | cons x c ih =>
      rw [List.map_cons, List.filter_cons, List.filter_cons]
      show (if x.dirty = true then _ else _ : List SV).map _ = _
      split
      · rw [List.map_cons, List.map_cons, ih]; rfl
      · exact ih
  · rfl
/-- in whatever order two records come -/
theorem order_plain {c : List SV} (hl : LowS c) (kind : Int) (t u : TV) (r s : RV) {n m : Int} (h1 : -128 ≤ n ∧ n ≤ 128) (h2 : -128 ≤ m ∧ m ≤ 128) :
    (comeF (comeF c kind 0 t r n) kind 0 u s m).map nfS = (comeF (comeF c kind 0 u s m) kind 0 t r n).map nfS := by
  by_cases p : comeOk c 0 t n = true
  · by_cases q : comeOk c 0 u m = true
    · have p2 := (comeOk_iff c 0 t n).1 p
      have q2 := (comeOk_iff c 0 u m).1 q
      have e1 : comeF (comeF c kind 0 t r n) kind 0 u s m = comeS (comeS c kind 0 t r n) kind 0 u s m := by
        rw [comeF, comeF_ok, if_pos q, comeF, if_pos p]
      have e2 : comeF (comeF c kind 0 u s m) kind 0 t r n = comeS (comeS c kind 0 u s m) kind 0 t r n := by
        rw [comeF, comeF_ok, if_pos p, comeF, if_pos q]
      rw [e1, e2]
      exact come_comm p2.2.1 hl p2.1 q2.1 kind p2.2.2.2.1 q2.2.2.2.1 h1 h2
    · have e1 : comeF (comeF c kind 0 t r n) kind 0 u s m = comeF c kind 0 t r n := by
        rw [comeF, comeF_ok, if_neg q]
      have e2 : comeF c kind 0 u s m = c := by rw [comeF, if_neg q]
      rw [e1, e2]
  · have e1 : comeF c kind 0 t r n = c := by rw [comeF, if_neg p]
    have e2 : comeF (comeF c kind 0 u s m) kind 0 t r n = comeF c kind 0 u s m := by
      rw [comeF, comeF_ok, if_neg p]
    rw [e1, e2]
/-- what the law compares of two lists of slots -/
theorem order_same {a b : List SV} (h : a.map nfS = b.map nfS) : a.length = b.length ∧ staleL a = staleL b ∧ ∀ j, j < a.length → (a[j]!).t = (b[j]!).t ∧ (a[j]!).a = (b[j]!).a ∧ (a[j]!).b = (b[j]!).b ∧ (a[j]!).s = (b[j]!).s := by
  have hl : a.length = b.length := by have := congrArg List.length h; simpa using this
  refine ⟨hl, by rw [← nf_stale a, ← nf_stale b, h], fun j hj => ?_⟩
  have e : nfS a[j]! = nfS b[j]! := by
    have := congrArg (fun l => l[j]?) h
    simp only [List.getElem?_map] at this
    rw [getElem!_pos a j hj, getElem!_pos b j (hl ▸ hj)]
    rw [List.getElem?_eq_getElem hj, List.getElem?_eq_getElem (hl ▸ hj)] at this
    exact Option.some.inj this
  have := e
  unfold nfS at this
  injection this with i1 i2 i3 i4 _ _
  exact ⟨i1, i2, i3, i4⟩
end Go.Proofs.YthhceggcdaljdaaGreat
