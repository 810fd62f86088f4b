/- a node that is being read: its box, its program's row (NS) -/
import Derived.Test.YtdhmoiiagplbpaaVn
namespace Go.Proofs.Ytdhmoiiagplbpaa
open Go.RowKit
set_option linter.unusedVariables false
set_option linter.unusedSimpArgs false

theorem Nb2.set {N bw x i : Nat} {a w : World} (h : Nb2 N bw a w) (hx : N ≤ x) (u : Value) : Nb2 N bw a (w.setCell ⟨x, i, none⟩ u) :=
  h.trans ⟨rfl, rfl, rfl, by simp [World.setCell], fun k hk _ => Below.heap_setCell w ⟨x, i, none⟩ u k (by show k ≠ x; omega)⟩
theorem Nb2.alloc {N bw : Nat} {a w : World} (h : Nb2 N bw a w) (hN : N ≤ w.heap.size) (o : Obj) : Nb2 N bw a (w.alloc o) :=
  h.trans (Nb2.ofBelow ((Below.refl N w).alloc hN o))
theorem Nb2.nb {N bw : Nat} {a w w' : World} (h : Nb2 N bw a w) (k : Nb bw w w') : Nb2 N bw a w' := h.trans k.nb2
theorem Nb2.grown {N bw : Nat} {a w w' : World} {row : Option Nat} (h : Nb2 N bw a w) (hN : N ≤ w.heap.size) (hg : w.grownBy w' row) (hr : ∀ k, row = some k → N ≤ k) : Nb2 N bw a w' :=
  h.trans ⟨hg.os, hg.tape, hg.output, hg.size, fun k hk _ => hg.block k (by omega) (fun e => by have := hr k e.symm; omega)⟩
theorem Nb.refl (bw : Nat) (w : World) : Nb bw w w := ⟨rfl, rfl, rfl, rfl, fun _ _ => rfl⟩
structure NS (N bw xb : Nat) (w : World) (v : Value) (at' e : Nat) (kd sc ar : Int) (pv : Value) (L : List NV) : Prop where
  xbox : w.heap[xb]? = some (.cells #[.int .i64 kd, .int .i64 sc, .int .i64 ar, pv] 46 (0, 0))
  wbox : WB w bw v at' e
  prog : RC.Own N w pv L
  hx : N ≤ xb
namespace NS
variable {N bw xb : Nat} {w w' : World} {v pv : Value} {at' e : Nat} {kd sc ar : Int} {L : List NV}
theorem tx (h : NS N bw xb w v at' e kd sc ar pv L) : tyAt w xb 46 := ⟨_, h.xbox⟩
theorem tw (h : NS N bw xb w v at' e kd sc ar pv L) : tyAt w bw 72 := ⟨_, h.wbox⟩
theorem xrow (h : NS N bw xb w v at' e kd sc ar pv L) : rowOf w xb = some #[.int .i64 kd, .int .i64 sc, .int .i64 ar, pv] := by
  unfold rowOf
  rw [h.xbox]
  rfl
theorem nb2 (h : NS N bw xb w v at' e kd sc ar pv L) (hn : Nb2 w.heap.size bw w w') {at2 e2 : Nat} (hb : WB w' bw v at2 e2) : NS N bw xb w' v at2 e2 kd sc ar pv L :=
  ⟨(hn.block xb h.tx.lt (h.tx.ne h.tw (by decide))).trans h.xbox, hb, h.prog.keepW fun l hl => hn.block l (h.prog.ty hl).lt ((h.prog.ty hl).ne h.tw (by decide)), h.hx⟩
theorem alloc (h : NS N bw xb w v at' e kd sc ar pv L) (o : Obj) : NS N bw xb (w.alloc o) v at' e kd sc ar pv L :=
  h.nb2 (Nb2.ofBelow ((Below.refl _ _).alloc (Nat.le_refl _) o)) ((Below.heap_alloc w o bw h.tw.lt).trans h.wbox)
theorem setAt (h : w.heap[xb]? = some (.cells #[.int .i64 kd, .int .i64 sc, .int .i64 ar, pv] 46 (0, 0))) (i : Nat) (u : Value) : (w.setCell ⟨xb, i, none⟩ u).heap[xb]? = some (.cells (#[.int .i64 kd, .int .i64 sc, .int .i64 ar, pv].setIfInBounds i u) 46 (0, 0)) := by
  unfold World.setCell
  simp only [Array.getElem?_modify, if_true, h]
  rfl
theorem wset (h : NS N bw xb w v at' e kd sc ar pv L) (i : Nat) (u : Value) : WB (w.setCell ⟨xb, i, none⟩ u) bw v at' e :=
  (Below.heap_setCell w ⟨xb, i, none⟩ u bw ((h.tw.ne h.tx (by decide)))).trans h.wbox
theorem set0 (h : NS N bw xb w v at' e kd sc ar pv L) (u : Int) : NS N bw xb (w.setCell ⟨xb, 0, none⟩ (.int .i64 u)) v at' e u sc ar pv L :=
  ⟨setAt h.xbox 0 _, h.wset 0 _, h.prog.setO _ h.tx (by decide), h.hx⟩
theorem set1 (h : NS N bw xb w v at' e kd sc ar pv L) (u : Int) : NS N bw xb (w.setCell ⟨xb, 1, none⟩ (.int .i64 u)) v at' e kd u ar pv L :=
  ⟨setAt h.xbox 1 _, h.wset 1 _, h.prog.setO _ h.tx (by decide), h.hx⟩
theorem set2 (h : NS N bw xb w v at' e kd sc ar pv L) (u : Int) : NS N bw xb (w.setCell ⟨xb, 2, none⟩ (.int .i64 u)) v at' e kd sc u pv L :=
  ⟨setAt h.xbox 2 _, h.wset 2 _, h.prog.setO _ h.tx (by decide), h.hx⟩
theorem setL (h : NS N bw xb w v at' e kd sc ar pv L) (hg : w.grownBy w' pv.ownBlock) {pv' : Value} {L' : List NV} (ho : RC.Own N w' pv' L') : NS N bw xb (w'.setCell ⟨xb, 3, none⟩ pv') v at' e kd sc ar pv' L' := by
  have kx := h.tx.grown h.prog hg (by decide)
  have kw := h.tw.grown h.prog hg (by decide)
  exact ⟨setAt (kx.trans h.xbox) 3 pv', (Below.heap_setCell w' ⟨xb, 3, none⟩ pv' bw (h.tw.ne h.tx (by decide))).trans (kw.trans h.wbox), ho.setO _ (h.tx.keep kx) (by decide), h.hx⟩
end NS
theorem WB.other {w : World} {bw k i : Nat} {v u : Value} {at' e : Nat} (h : WB w bw v at' e) (hne : bw ≠ k) : WB (w.setCell ⟨k, i, none⟩ u) bw v at' e := (Below.heap_setCell w ⟨k, i, none⟩ u bw hne).trans h
theorem WB.lt {w : World} {bw : Nat} {v : Value} {at' e : Nat} (h : WB w bw v at' e) : bw < w.heap.size := (Array.getElem?_eq_some_iff.1 h).1
theorem WB.alloc {w : World} {bw : Nat} {v : Value} {at' e : Nat} (h : WB w bw v at' e) (o : Obj) : WB (w.alloc o) bw v at' e := (Below.heap_alloc w o bw h.lt).trans h
/-- a new node's box -/
theorem ns_init {w : World} {bw : Nat} {v : Value} {at' e : Nat} (h : WB w bw v at' e) : NS w.heap.size bw w.heap.size (w.alloc (.cells #[.int .i64 0, .int .i64 0, .int .i64 0, .slice none 0 0] 46)) v at' e 0 0 0 (.slice none 0 0) [] :=
  ⟨heap_alloc_new w _, (Below.heap_alloc w _ bw (Array.getElem?_eq_some_iff.1 h).1).trans h, RowKind.Own.nil RC _ _, Nat.le_refl _⟩
/-- only the result's box has changed -/
theorem GS.isGr {B gb bw rb : Nat} {w w' : World} {v pv bv nv ev : Value} {P Q : List Int} {rs : List NW} {ns : List GN} {es : List GE} {at' e : Nat} (h : GS B gb bw rb w v pv bv nv ev P Q rs ns es at' e) (hn : Nb rb w w') : IsG w' (.agg #[pv, bv, nv, ev]) ⟨P, Q, ns, es⟩ := by
  have own : ∀ {α : Type} {R : RowKind α} (hR : R.tE ≠ 26) {u : Value} {ys : List α}, R.Own B w u ys → R.Own B w' u ys := fun hR _ _ ho =>
    ho.keepW fun l hl => hn.block l ((ho.ty hl).ne h.tr hR)
  exact ⟨pv, bv, nv, ev, rfl, (own (by decide) h.par).is, (own (by decide) h.bnd).is, ⟨rs, (own (by decide) h.nod).is, h.len, fun i hi => isNO.isN ⟨(h.prg i hi).1, (h.prg i hi).2.1, (h.prg i hi).2.2.1, own (by decide) (h.prg i hi).2.2.2⟩⟩, (own (by decide) h.edg).is⟩
theorem GS.rrow {B gb bw rb : Nat} {w : World} {v pv bv nv ev : Value} {P Q : List Int} {rs : List NW} {ns : List GN} {es : List GE} {at' e : Nat} (h : GS B gb bw rb w v pv bv nv ev P Q rs ns es at' e) : rowOf w rb = some zeroG := by
  unfold rowOf
  rw [h.rbox]
  rfl
end Go.Proofs.Ytdhmoiiagplbpaa
