/- a graph that is being read: its box, the walk's box, its rows (GS) -/
import Derived.Test.YtdhmoiiagplbpaaVc
import Derived.Test.YtdhmoiiagplbpaaVm
import Derived.Test.YtdhmoiiagplbpaaRowBlock
namespace Go.Proofs.Ytdhmoiiagplbpaa
open Go.RowKit
set_option linter.unusedVariables false
set_option linter.unusedSimpArgs false

/-- block k holds cells of type t -/
def tyAt (w : World) (k : Nat) (t : TypeId) : Prop := ∃ c, w.heap[k]? = some (.cells c t (0, 0))
theorem tyAt.ne {w : World} {k l : Nat} {t u : TypeId} (h : tyAt w k t) (h2 : tyAt w l u) (hn : t ≠ u) : k ≠ l := fun e => by
  subst e
  obtain ⟨c, h⟩ := h
  obtain ⟨d, h2⟩ := h2
  rw [h] at h2
  simp only [Option.some.injEq, Obj.cells.injEq] at h2
  exact hn h2.2.1
theorem tyAt.lt {w : World} {k : Nat} {t : TypeId} (h : tyAt w k t) : k < w.heap.size := by
  obtain ⟨c, h⟩ := h
  exact (Array.getElem?_eq_some_iff.1 h).1
theorem tyAt.keep {w w' : World} {k : Nat} {t : TypeId} (h : tyAt w k t) (e : w'.heap[k]? = w.heap[k]?) : tyAt w' k t := by
  obtain ⟨c, h⟩ := h
  exact ⟨c, e.trans h⟩
namespace RowKind
variable {α : Type} {R : RowKind α}
theorem Own.ty {B : Nat} {w : World} {v : Value} {xs : List α} (h : R.Own B w v xs) {l : Nat} (hl : v.ownBlock = some l) : tyAt w l R.tE := by
  obtain ⟨_, ⟨rfl, _⟩ | ⟨g, cap, cur, rfl, _, hg, _⟩⟩ := h
  · cases hl
  · obtain rfl := Option.some.inj hl
    exact ⟨cur, hg⟩
theorem Own.keepW {B : Nat} {w w' : World} {v : Value} {xs : List α} (h : R.Own B w v xs) (hk : ∀ l, v.ownBlock = some l → w'.heap[l]? = w.heap[l]?) : R.Own B w' v xs := by
  obtain ⟨h1, h2⟩ := h
  refine ⟨h1, ?_⟩
  rcases h2 with h2 | ⟨g, cap, cur, e, hB, hg, rest⟩
  · exact .inl h2
  · exact .inr ⟨g, cap, cur, e, hB, (hk g (by rw [e]; rfl)).trans hg, rest⟩
/-- a block of another type has changed -/
theorem Own.setO {B : Nat} {w : World} {v : Value} {xs : List α} (h : R.Own B w v xs) {k i : Nat} {t : TypeId} (u : Value) (hk : tyAt w k t) (hn : t ≠ R.tE) : R.Own B (w.setCell ⟨k, i, none⟩ u) v xs :=
  h.keepW fun l hl => Below.heap_setCell w ⟨k, i, none⟩ u l (fun e => (hk.ne (h.ty hl) hn) e.symm)
theorem Own.grownO {β : Type} {R2 : RowKind β} {B B2 : Nat} {w w' : World} {v u : Value} {xs : List α} {ys : List β} (h : R.Own B w v xs) (h2 : R2.Own B2 w u ys) (hg : w.grownBy w' u.ownBlock) (hn : R2.tE ≠ R.tE) : R.Own B w' v xs :=
  h.keepW fun l hl => hg.block l (h.ty hl).lt (fun e => (h2.ty e.symm).ne (h.ty hl) hn rfl)
end RowKind
theorem tyAt.grown {α : Type} {R : RowKind α} {B : Nat} {w w' : World} {v : Value} {xs : List α} {k : Nat} {t : TypeId} (h : tyAt w k t) (ho : R.Own B w v xs) (hg : w.grownBy w' v.ownBlock) (hn : R.tE ≠ t) : w'.heap[k]? = w.heap[k]? :=
  hg.block k h.lt (fun e => (ho.ty e.symm).ne h hn rfl)
/-- blocks below N are as they were, but bw -/
structure Nb2 (N bw : Nat) (w w' : World) : Prop where
  os : w'.os = w.os
  tape : w'.tape = w.tape
  output : w'.output = w.output
  size : w.heap.size ≤ w'.heap.size
  block : ∀ k, k < N → k ≠ bw → w'.heap[k]? = w.heap[k]?
theorem Nb2.refl (N bw : Nat) (w : World) : Nb2 N bw w w := ⟨rfl, rfl, rfl, Nat.le_refl _, fun _ _ _ => rfl⟩
theorem Nb2.trans {N bw : Nat} {a b c : World} (h : Nb2 N bw a b) (k : Nb2 N bw b c) : Nb2 N bw a c :=
  ⟨k.os.trans h.os, k.tape.trans h.tape, k.output.trans h.output, Nat.le_trans h.size k.size, fun i hi hb => (k.block i hi hb).trans (h.block i hi hb)⟩
theorem Nb.nb2 {N bw : Nat} {w w' : World} (h : Nb bw w w') : Nb2 N bw w w' := ⟨h.os, h.tape, h.output, by rw [h.size]; exact Nat.le_refl _, fun k _ hk => h.block k hk⟩
theorem Nb2.ofBelow {N bw : Nat} {w w' : World} (h : Below N w w') : Nb2 N bw w w' := ⟨h.os, h.tape, h.output, h.size, fun k hk _ => h.block k hk⟩
theorem Nb2.below {N bw B : Nat} {a w w' : World} (h : Nb2 N bw w w') (ha : Below B a w) (hB : B ≤ bw) (hN : B ≤ N) : Below B a w' :=
  ha.trans ⟨h.os, h.tape, h.output, h.size, fun k hk => h.block k (by omega) (by omega)⟩
/-- a raw node of the call's own -/
def isNO (B : Nat) (w : World) (x : NW) (g : GN) : Prop := x.kind = g.kind ∧ x.scope = g.scope ∧ x.arg = g.arg ∧ RC.Own B w (.slice x.p x.n x.c) g.prog
theorem isNO.isN {B : Nat} {w : World} {x : NW} {g : GN} (h : isNO B w x g) : isN w x g := ⟨h.1, h.2.1, h.2.2.1, h.2.2.2.is⟩
def zeroG : Array Value := #[.slice none 0 0, .slice none 0 0, .slice none 0 0, .slice none 0 0]
/-- a graph that is being read -/
structure GS (B gb bw rb : Nat) (w : World) (v pv bv nv ev : Value) (P Q : List Int) (rs : List NW) (ns : List GN) (es : List GE) (at' e : Nat) : Prop where
  gbox : w.heap[gb]? = some (.cells #[pv, bv, nv, ev] 26 (0, 0))
  wbox : WB w bw v at' e
  rbox : w.heap[rb]? = some (.cells zeroG 26 (0, 0))
  ne : rb ≠ gb
  par : RN.Own B w pv P
  bnd : RN.Own B w bv Q
  sep : ∀ k, pv.ownBlock = some k → bv.ownBlock ≠ some k
  nod : RW.Own B w nv rs
  len : rs.length = ns.length
  prg : ∀ i, i < ns.length → isNO B w rs[i]! ns[i]!
  edg : RE.Own B w ev es
  hg : B ≤ gb
  hw : B ≤ bw
namespace GS
variable {B gb bw rb : Nat} {w w' : World} {v pv bv nv ev : Value} {P Q : List Int} {rs : List NW} {ns : List GN} {es : List GE} {at' e : Nat}
theorem tg (h : GS B gb bw rb w v pv bv nv ev P Q rs ns es at' e) : tyAt w gb 26 := ⟨_, h.gbox⟩
theorem tw (h : GS B gb bw rb w v pv bv nv ev P Q rs ns es at' e) : tyAt w bw 72 := ⟨_, h.wbox⟩
theorem tr (h : GS B gb bw rb w v pv bv nv ev P Q rs ns es at' e) : tyAt w rb 26 := ⟨_, h.rbox⟩
theorem grow (h : GS B gb bw rb w v pv bv nv ev P Q rs ns es at' e) : rowOf w gb = some #[pv, bv, nv, ev] := by
  unfold rowOf
  rw [h.gbox]
  rfl
theorem size (h : GS B gb bw rb w v pv bv nv ev P Q rs ns es at' e) : B ≤ w.heap.size := Nat.le_trans h.hg (Nat.le_of_lt h.tg.lt)
/-- all but the walk's box has stayed -/
theorem nb2 (h : GS B gb bw rb w v pv bv nv ev P Q rs ns es at' e) (hn : Nb2 w.heap.size bw w w') {at2 e2 : Nat} (hb : WB w' bw v at2 e2) : GS B gb bw rb w' v pv bv nv ev P Q rs ns es at2 e2 := by
  have own : ∀ {α : Type} {R : RowKind α} (hR : R.tE ≠ 72) {u : Value} {ys : List α}, R.Own B w u ys → R.Own B w' u ys := fun hR _ _ ho =>
    ho.keepW fun l hl => hn.block l (ho.ty hl).lt ((ho.ty hl).ne h.tw hR)
  exact ⟨(hn.block gb h.tg.lt (h.tg.ne h.tw (by decide))).trans h.gbox, hb, (hn.block rb h.tr.lt (h.tr.ne h.tw (by decide))).trans h.rbox, h.ne, own (by decide) h.par, own (by decide) h.bnd, h.sep, own (by decide) h.nod, h.len,
    fun i hi => ⟨(h.prg i hi).1, (h.prg i hi).2.1, (h.prg i hi).2.2.1, own (by decide) (h.prg i hi).2.2.2⟩, own (by decide) h.edg, h.hg, h.hw⟩
theorem alloc (h : GS B gb bw rb w v pv bv nv ev P Q rs ns es at' e) (o : Obj) : GS B gb bw rb (w.alloc o) v pv bv nv ev P Q rs ns es at' e :=
  h.nb2 (Nb2.ofBelow ((Below.refl _ _).alloc (Nat.le_refl _) o)) ((Below.heap_alloc w o bw h.tw.lt).trans h.wbox)
theorem drewN (h : GS B gb bw rb w v pv bv nv ev P Q rs ns es at' e) (n : Nat) : GS B gb bw rb (w.drewN n) v pv bv nv ev P Q rs ns es at' e :=
  ⟨h.gbox, h.wbox, h.rbox, h.ne, h.par, h.bnd, h.sep, h.nod, h.len, h.prg, h.edg, h.hg, h.hw⟩
theorem drew (h : GS B gb bw rb w v pv bv nv ev P Q rs ns es at' e) : GS B gb bw rb w.drew v pv bv nv ev P Q rs ns es at' e :=
  ⟨h.gbox, h.wbox, h.rbox, h.ne, h.par, h.bnd, h.sep, h.nod, h.len, h.prg, h.edg, h.hg, h.hw⟩
theorem setAt (h : w.heap[gb]? = some (.cells #[pv, bv, nv, ev] 26 (0, 0))) (i : Nat) (u : Value) : (w.setCell ⟨gb, i, none⟩ u).heap[gb]? = some (.cells (#[pv, bv, nv, ev].setIfInBounds i u) 26 (0, 0)) := by
  unfold World.setCell
  simp only [Array.getElem?_modify, if_true, h]
  rfl
/-- something is put behind the parents -/
theorem setP (h : GS B gb bw rb w v pv bv nv ev P Q rs ns es at' e) (hgr : w.grownBy w' pv.ownBlock) {pv' : Value} {P' : List Int} (ho : RN.Own B w' pv' P') (hs : StaysOrNew w pv pv') : GS B gb bw rb (w'.setCell ⟨gb, 0, none⟩ pv') v pv' bv nv ev P' Q rs ns es at' e := by
  have kg := h.tg.grown h.par hgr (by decide)
  have kw := h.tw.grown h.par hgr (by decide)
  have kr := h.tr.grown h.par hgr (by decide)
  have hg' := h.tg.keep kg
  have own : ∀ {α : Type} {R : RowKind α} (hR : RN.tE ≠ R.tE) (hR2 : 26 ≠ R.tE) {u : Value} {ys : List α}, R.Own B w u ys → R.Own B (w'.setCell ⟨gb, 0, none⟩ pv') u ys := fun hR hR2 _ _ hu =>
    (hu.grownO h.par hgr hR).setO _ hg' hR2
  have hb2 : RN.Own B w' bv Q := h.bnd.keepW fun l hl => hgr.block l (h.bnd.ty hl).lt (fun e => h.sep l e.symm hl)
  refine ⟨setAt (kg.trans h.gbox) 0 pv', ?_, ?_, h.ne, ho.setO _ hg' (by decide), hb2.setO _ hg' (by decide), fun k hk hk2 => ?_, own (by decide) (by decide) h.nod, h.len, fun i hi => ⟨(h.prg i hi).1, (h.prg i hi).2.1, (h.prg i hi).2.2.1, own (by decide) (by decide) (h.prg i hi).2.2.2⟩, own (by decide) (by decide) h.edg, h.hg, h.hw⟩
  · exact (Below.heap_setCell w' ⟨gb, 0, none⟩ pv' bw (h.tw.ne h.tg (by decide))).trans (kw.trans h.wbox)
  · exact (Below.heap_setCell w' ⟨gb, 0, none⟩ pv' rb h.ne).trans (kr.trans h.rbox)
  · rcases hs with hs | hs
    · exact h.sep k (by rw [← hs]; exact hk) hk2
    · have := hs k hk
      have := (h.bnd.ty hk2).lt
      omega
theorem setQ (h : GS B gb bw rb w v pv bv nv ev P Q rs ns es at' e) (hgr : w.grownBy w' bv.ownBlock) {bv' : Value} {Q' : List Int} (ho : RN.Own B w' bv' Q') (hs : StaysOrNew w bv bv') : GS B gb bw rb (w'.setCell ⟨gb, 1, none⟩ bv') v pv bv' nv ev P Q' rs ns es at' e := by
  have kg := h.tg.grown h.bnd hgr (by decide)
  have kw := h.tw.grown h.bnd hgr (by decide)
  have kr := h.tr.grown h.bnd hgr (by decide)
  have hg' := h.tg.keep kg
  have own : ∀ {α : Type} {R : RowKind α} (hR : RN.tE ≠ R.tE) (hR2 : 26 ≠ R.tE) {u : Value} {ys : List α}, R.Own B w u ys → R.Own B (w'.setCell ⟨gb, 1, none⟩ bv') u ys := fun hR hR2 _ _ hu =>
    (hu.grownO h.bnd hgr hR).setO _ hg' hR2
  have hp2 : RN.Own B w' pv P := h.par.keepW fun l hl => hgr.block l (h.par.ty hl).lt (fun e => h.sep l hl e.symm)
  refine ⟨setAt (kg.trans h.gbox) 1 bv', ?_, ?_, h.ne, hp2.setO _ hg' (by decide), ho.setO _ hg' (by decide), fun k hk hk2 => ?_, own (by decide) (by decide) h.nod, h.len, fun i hi => ⟨(h.prg i hi).1, (h.prg i hi).2.1, (h.prg i hi).2.2.1, own (by decide) (by decide) (h.prg i hi).2.2.2⟩, own (by decide) (by decide) h.edg, h.hg, h.hw⟩
  · exact (Below.heap_setCell w' ⟨gb, 1, none⟩ bv' bw (h.tw.ne h.tg (by decide))).trans (kw.trans h.wbox)
  · exact (Below.heap_setCell w' ⟨gb, 1, none⟩ bv' rb h.ne).trans (kr.trans h.rbox)
  · rcases hs with hs | hs
    · exact h.sep k hk (by rw [← hs]; exact hk2)
    · have := hs k hk2
      have := (h.par.ty hk).lt
      omega
theorem setN (h : GS B gb bw rb w v pv bv nv ev P Q rs ns es at' e) (hgr : w.grownBy w' nv.ownBlock) {nv' : Value} {x : NW} {g : GN} (ho : RW.Own B w' nv' (rs ++ [x])) (hx : isNO B w x g) : GS B gb bw rb (w'.setCell ⟨gb, 2, none⟩ nv') v pv bv nv' ev P Q (rs ++ [x]) (ns ++ [g]) es at' e := by
  have kg := h.tg.grown h.nod hgr (by decide)
  have kw := h.tw.grown h.nod hgr (by decide)
  have kr := h.tr.grown h.nod hgr (by decide)
  have hg' := h.tg.keep kg
  have own : ∀ {α : Type} {R : RowKind α} (hR : RW.tE ≠ R.tE) (hR2 : 26 ≠ R.tE) {u : Value} {ys : List α}, R.Own B w u ys → R.Own B (w'.setCell ⟨gb, 2, none⟩ nv') u ys := fun hR hR2 _ _ hu =>
    (hu.grownO h.nod hgr hR).setO _ hg' hR2
  have ownN : ∀ {y : NW} {z : GN}, isNO B w y z → isNO B (w'.setCell ⟨gb, 2, none⟩ nv') y z := fun q => ⟨q.1, q.2.1, q.2.2.1, own (by decide) (by decide) q.2.2.2⟩
  refine ⟨setAt (kg.trans h.gbox) 2 nv', ?_, ?_, h.ne, own (by decide) (by decide) h.par, own (by decide) (by decide) h.bnd, h.sep, ho.setO _ hg' (by decide), by simp [h.len], fun i hi => ?_, own (by decide) (by decide) h.edg, h.hg, h.hw⟩
  · exact (Below.heap_setCell w' ⟨gb, 2, none⟩ nv' bw (h.tw.ne h.tg (by decide))).trans (kw.trans h.wbox)
  · exact (Below.heap_setCell w' ⟨gb, 2, none⟩ nv' rb h.ne).trans (kr.trans h.rbox)
  · have hl := h.len
    rw [List.length_append, List.length_singleton] at hi
    by_cases hq : i < ns.length
    · have e1 : (rs ++ [x])[i]! = rs[i]! := by rw [getElem!_pos _ i (by simp; omega), getElem!_pos rs i (by omega), List.getElem_append_left]
      have e2 : (ns ++ [g])[i]! = ns[i]! := by rw [getElem!_pos _ i (by simp; omega), getElem!_pos ns i hq, List.getElem_append_left]
      rw [e1, e2]
      exact ownN (h.prg i hq)
    · obtain rfl : i = ns.length := by omega
      have e1 : (rs ++ [x])[ns.length]! = x := by rw [← hl, getElem!_pos _ rs.length (by simp)]; simp
      have e2 : (ns ++ [g])[ns.length]! = g := by rw [getElem!_pos _ ns.length (by simp)]; simp
      rw [e1, e2]
      exact ownN hx
theorem setE (h : GS B gb bw rb w v pv bv nv ev P Q rs ns es at' e) (hgr : w.grownBy w' ev.ownBlock) {ev' : Value} {es' : List GE} (ho : RE.Own B w' ev' es') : GS B gb bw rb (w'.setCell ⟨gb, 3, none⟩ ev') v pv bv nv ev' P Q rs ns es' at' e := by
  have kg := h.tg.grown h.edg hgr (by decide)
  have kw := h.tw.grown h.edg hgr (by decide)
  have kr := h.tr.grown h.edg hgr (by decide)
  have hg' := h.tg.keep kg
  have own : ∀ {α : Type} {R : RowKind α} (hR : RE.tE ≠ R.tE) (hR2 : 26 ≠ R.tE) {u : Value} {ys : List α}, R.Own B w u ys → R.Own B (w'.setCell ⟨gb, 3, none⟩ ev') u ys := fun hR hR2 _ _ hu =>
    (hu.grownO h.edg hgr hR).setO _ hg' hR2
  refine ⟨setAt (kg.trans h.gbox) 3 ev', ?_, ?_, h.ne, own (by decide) (by decide) h.par, own (by decide) (by decide) h.bnd, h.sep, own (by decide) (by decide) h.nod, h.len, fun i hi => ⟨(h.prg i hi).1, (h.prg i hi).2.1, (h.prg i hi).2.2.1, own (by decide) (by decide) (h.prg i hi).2.2.2⟩, ho.setO _ hg' (by decide), h.hg, h.hw⟩
  · exact (Below.heap_setCell w' ⟨gb, 3, none⟩ ev' bw (h.tw.ne h.tg (by decide))).trans (kw.trans h.wbox)
  · exact (Below.heap_setCell w' ⟨gb, 3, none⟩ ev' rb h.ne).trans (kr.trans h.rbox)
theorem isG (h : GS B gb bw rb w v pv bv nv ev P Q rs ns es at' e) : IsG w (.agg #[pv, bv, nv, ev]) ⟨P, Q, ns, es⟩ :=
  ⟨pv, bv, nv, ev, rfl, h.par.is, h.bnd.is, ⟨rs, h.nod.is, h.len, fun i hi => (h.prg i hi).isN⟩, h.edg.is⟩
end GS
end Go.Proofs.Ytdhmoiiagplbpaa
