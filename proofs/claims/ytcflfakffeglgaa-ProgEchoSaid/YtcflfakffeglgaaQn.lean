/- the program's machine in memory (Mach); its own put, emit, take, needs -/
import Derived.Test.YtcflfakffeglgaaQd
import Derived.Test.YtcflfakffeglgaaQl
import Derived.Test.YtcflfakffeglgaaBoxG
import Derived.ArgAppend
namespace Go.Proofs.Ytcflfakffeglgaa
open Go.RowKit
set_option linter.unusedVariables false
set_option linter.unusedSimpArgs false

/-- the machine lies in block bm; its stack and what it has emitted lie in rows of the run's own -/
structure Mach (B bm : Nat) (rk rv : Int) (w : World) (pc : Int) (sv ov : Value) (S : List Int) (O : List RV) : Prop where
  box : w.heap[bm]? = some (.cells #[.int .i64 rk, .int .i64 rv, .int .i64 pc, sv, ov] 41 (0, 0))
  hB : B ≤ bm
  st : R6.Own B w sv S
  out : RR.Own B w ov O
namespace Mach
variable {B bm : Nat} {rk rv : Int} {w w' : World} {pc : Int} {sv ov : Value} {S : List Int} {O : List RV}
theorem row (h : Mach B bm rk rv w pc sv ov S O) : rowOf w bm = some #[.int .i64 rk, .int .i64 rv, .int .i64 pc, sv, ov] := by
  unfold rowOf
  rw [h.box]
  rfl
theorem lt (h : Mach B bm rk rv w pc sv ov S O) : bm < w.heap.size := rowOf_lt h.row
theorem size (h : Mach B bm rk rv w pc sv ov S O) : B ≤ w.heap.size := Nat.le_trans h.hB (Nat.le_of_lt h.lt)
theorem apartS (h : Mach B bm rk rv w pc sv ov S O) {α : Type} {R : RowKind α} (hR : R.tE ≠ 41) {v : Value} {xs : List α} (ho : R.Own B w v xs) : v.ownBlock ≠ some bm := by
  intro e
  obtain ⟨_, ⟨rfl, _⟩ | ⟨g, cap, cur, rfl, _, hg, _⟩⟩ := ho
  · cases e
  have e1 : g = bm := Option.some.inj e
  subst e1
  have hb := h.box
  rw [hg] at hb
  simp only [Option.some.injEq, Obj.cells.injEq] at hb
  exact hR hb.2.1
theorem alloc (h : Mach B bm rk rv w pc sv ov S O) (o : Obj) : Mach B bm rk rv (w.alloc o) pc sv ov S O :=
  ⟨(Below.heap_alloc w o bm h.lt).trans h.box, h.hB, h.st.alloc o, h.out.alloc o⟩
theorem drewN (h : Mach B bm rk rv w pc sv ov S O) (n : Nat) : Mach B bm rk rv (w.drewN n) pc sv ov S O := ⟨h.box, h.hB, h.st, h.out⟩
theorem below (h : Mach B bm rk rv w pc sv ov S O) (hb : Below w.heap.size w w') : Mach B bm rk rv w' pc sv ov S O :=
  ⟨(hb.block bm h.lt).trans h.box, h.hB, h.st.below hb, h.out.below hb⟩
theorem keep (h : Mach B bm rk rv w pc sv ov S O) {α : Type} {R : RowKind α} (hR : R.tE ≠ 41) {v : Value} {xs : List α} (ho : R.Own B w v xs) (i : Nat) (u : Value) : R.Own B (w.setCell ⟨bm, i, none⟩ u) v xs :=
  ho.keepO fun l hl => Below.heap_setCell w ⟨bm, i, none⟩ u l (fun e => h.apartS hR ho (by rw [hl]; exact congrArg some e))
theorem setHeap (h : Mach B bm rk rv w pc sv ov S O) (i : Nat) (u : Value) : (w.setCell ⟨bm, i, none⟩ u).heap[bm]? = some (.cells (#[.int .i64 rk, .int .i64 rv, .int .i64 pc, sv, ov].setIfInBounds i u) 41 (0, 0)) := by
  unfold World.setCell
  simp only [Array.getElem?_modify, if_true, h.box]
  rfl
theorem setPc (h : Mach B bm rk rv w pc sv ov S O) (q : Int) : Mach B bm rk rv (w.setCell ⟨bm, 2, none⟩ (.int .i64 q)) q sv ov S O :=
  ⟨h.setHeap 2 _, h.hB, h.keep (by decide) h.st 2 _, h.keep (by decide) h.out 2 _⟩
theorem setSt (h : Mach B bm rk rv w pc sv ov S O) {v : Value} {xs : List Int} (ho : R6.Own B w v xs) : Mach B bm rk rv (w.setCell ⟨bm, 3, none⟩ v) pc v ov xs O :=
  ⟨h.setHeap 3 _, h.hB, h.keep (by decide) ho 3 _, h.keep (by decide) h.out 3 _⟩
theorem setOut (h : Mach B bm rk rv w pc sv ov S O) {v : Value} {xs : List RV} (ho : RR.Own B w v xs) : Mach B bm rk rv (w.setCell ⟨bm, 4, none⟩ v) pc sv v S xs :=
  ⟨h.setHeap 4 _, h.hB, h.keep (by decide) h.st 4 _, h.keep (by decide) ho 4 _⟩
/-- the stack's row has grown -/
theorem grownS (h : Mach B bm rk rv w pc sv ov S O) (hg : w.grownBy w' sv.ownBlock) {v : Value} {xs : List Int} (ho : R6.Own B w' v xs) : w'.heap[bm]? = w.heap[bm]? ∧ RR.Own B w' ov O := by
  have ha := h.st.apart h.out (by decide)
  exact ⟨hg.block bm h.lt (fun e => h.apartS (by decide) h.st e.symm), h.out.keepO fun l hl => hg.block l ((h.out.lt l hl).2) (fun e => ha l hl e.symm)⟩
theorem pushS (h : Mach B bm rk rv w pc sv ov S O) (hg : w.grownBy w' sv.ownBlock) {v : Value} {xs : List Int} (ho : R6.Own B w' v xs) : Mach B bm rk rv (w'.setCell ⟨bm, 3, none⟩ v) pc v ov xs O := by
  obtain ⟨hb, h2⟩ := h.grownS hg ho
  have hap : sv.ownBlock ≠ some bm := h.apartS (by decide) h.st
  have hbx := hb.trans h.box
  have keep : ∀ {α : Type} {R : RowKind α} (hR : R.tE ≠ 41) {v2 : Value} {ys : List α} (ho : R.Own B w' v2 ys), R.Own B (w'.setCell ⟨bm, 3, none⟩ v) v2 ys := by
    intro α R hR v2 ys ho
    refine ho.keepO fun l hl => Below.heap_setCell w' ⟨bm, 3, none⟩ v l (fun e => ?_)
    obtain ⟨_, ⟨rfl, _⟩ | ⟨g, cap, cur, rfl, _, hg, _⟩⟩ := ho
    · cases hl
    have e1 : g = l := Option.some.inj hl
    have e : l = bm := e
    subst e1
    subst e
    rw [hg] at hbx
    simp only [Option.some.injEq, Obj.cells.injEq] at hbx
    exact hR hbx.2.1
  refine ⟨?_, h.hB, keep (by decide) ho, keep (by decide) h2⟩
  unfold World.setCell
  simp only [Array.getElem?_modify, if_true, hbx]
  rfl
theorem pushO (h : Mach B bm rk rv w pc sv ov S O) (hg : w.grownBy w' ov.ownBlock) {v : Value} {xs : List RV} (ho : RR.Own B w' v xs) : Mach B bm rk rv (w'.setCell ⟨bm, 4, none⟩ v) pc sv v S xs := by
  have ha := h.out.apart h.st (by decide)
  have hb : w'.heap[bm]? = w.heap[bm]? := hg.block bm h.lt (fun e => h.apartS (by decide) h.out e.symm)
  have h2 : R6.Own B w' sv S := h.st.keepO fun l hl => hg.block l ((h.st.lt l hl).2) (fun e => ha l hl e.symm)
  have hbx := hb.trans h.box
  have keep : ∀ {α : Type} {R : RowKind α} (hR : R.tE ≠ 41) {v2 : Value} {ys : List α} (ho : R.Own B w' v2 ys), R.Own B (w'.setCell ⟨bm, 4, none⟩ v) v2 ys := by
    intro α R hR v2 ys ho
    refine ho.keepO fun l hl => Below.heap_setCell w' ⟨bm, 4, none⟩ v l (fun e => ?_)
    obtain ⟨_, ⟨rfl, _⟩ | ⟨g, cap, cur, rfl, _, hg, _⟩⟩ := ho
    · cases hl
    have e1 : g = l := Option.some.inj hl
    have e : l = bm := e
    subst e1
    subst e
    rw [hg] at hbx
    simp only [Option.some.injEq, Obj.cells.injEq] at hbx
    exact hR hbx.2.1
  refine ⟨?_, h.hB, keep (by decide) h2, keep (by decide) ho⟩
  unfold World.setCell
  simp only [Array.getElem?_modify, if_true, hbx]
  rfl
end Mach
set_option maxRecDepth 100000 in
set_option maxHeartbeats 4000000 in
theorem pput_any {B bm : Nat} {rk rv : Int} {w : World} {pc : Int} {sv ov : Value} {S : List Int} {O : List RV} (h : Mach B bm rk rv w pc sv ov S O) (lv : Value) (L : List Int) (hL : R6.App w lv L) (hlen : S.length + L.length ≤ 900000) :
    Calls Try.prog 23 #[.pointer (some ⟨bm, 0, none⟩), lv] w (fun e w' => e = .returned (.tuple #[]) ∧ Below B w w' ∧ ∃ sv', Mach B bm rk rv w' pc sv' ov (S ++ L) O) := by
  have H := Lib.hid h; have HL := Lib.hid hL
  have HLen : Hid (S.length + L.length ≤ 1000000) := by show _ ≤ _; omega
  have c3 : w.cell? ⟨bm, 3, none⟩ = some sv := rowOf_cell h.row 3
  clear h hL hlen
  go_enter Try.func23, Try.ntmps23
  go_wp2_with (at_builtin; refine RowKind.Own.append (R := R6) rfl _ _ rfl H.out.st rfl L rfl HL.out HLen.out H.out.size ?_; intro v' w' h1 h2; have HM := Lib.hid (H.out.pushS h2 h1); have hlt := H.out.st.lt; have HBw := Lib.hid (((Below.refl B w).grown h2 H.out.size (fun k hk => (hlt k hk).1)).setCell (p := ⟨bm, 3, none⟩) H.out.hB v'); have hrow := (rowOf_block (H.out.grownS h2 h1).1).trans H.out.row; have d3 : w'.cell? ⟨bm, 3, none⟩ = some sv := rowOf_cell hrow 3; have e3 := rowOf_frozen hrow 3; obtain ⟨p', c', rfl⟩ := h1.is.slice; clear hlt hrow h1 h2 c3; generalize (S ++ L).length = ln at *)
  go_returns
  exact ⟨rfl, HBw.out, _, HM.out⟩
set_option maxRecDepth 100000 in
set_option maxHeartbeats 4000000 in
theorem pemit_any {B bm : Nat} {rk rv : Int} {w : World} {pc : Int} {sv ov : Value} {S : List Int} {O : List RV} (h : Mach B bm rk rv w pc sv ov S O) (x y : Int) (hlen : O.length ≤ 8) :
    Calls Try.prog 24 #[.pointer (some ⟨bm, 0, none⟩), .int .i64 x, .int .i64 y] w (fun e w' => e = .returned (.int .i64 (if O.length = 8 then 5 else 0)) ∧ Below B w w' ∧ (O.length ≠ 8 → ∃ ov', Mach B bm rk rv w' pc sv ov' S (O ++ [⟨x, y⟩]))) := by
  obtain ⟨po, co, rfl⟩ := h.out.is.slice
  have H := Lib.hid h
  have c4 : w.cell? ⟨bm, 4, none⟩ = some (.slice po O.length co) := rowOf_cell h.row 4
  have HLen : Hid (O.length ≤ 900000) := by show _ ≤ _; omega
  have HOut := Lib.hid h.out
  clear h
  by_cases h8 : O.length = 8
  · rw [if_pos h8]
    have hn : ¬ O.length ≠ 8 := fun e => e h8
    have HN := Lib.hid hn
    clear hn
    rw [h8] at c4
    clear h8 hlen
    go_enter Try.func24, Try.ntmps24
    go_wp2
    go_returns
    exact ⟨rfl, Below.refl _ _, fun e => absurd e HN.out⟩
  · rw [if_neg h8]
    have HA : Hid (Mach B bm rk rv (w.alloc (.cells (RR.enc (⟨x, y⟩ : RV)).toArray 24)) pc sv (.slice po O.length co) S O) := H.out.alloc _
    have HAp : Hid (RR.App (w.alloc (.cells (RR.enc (⟨x, y⟩ : RV)).toArray 24)) (.slice (some ⟨w.heap.size, 0, none⟩) 1 1) [(⟨x, y⟩ : RV)]) := RowKind.Row.app (ys := [(⟨x, y⟩ : RV)]) (RowKind.Row.new (R := RR) w (⟨x, y⟩ : RV) 24)
    have HLen1 : Hid (O.length + 1 ≤ 1000000) := by show _ ≤ _; omega
    have HB0 := Lib.hid ((Below.refl B w).alloc H.out.size (.cells (RR.enc (⟨x, y⟩ : RV)).toArray 24))
    have hz : ((O.length : Int) == 8) = false := by simp; omega
    clear hlen h8
    go_enter Try.func24, Try.ntmps24
    go_wp2_with (at_builtin; refine RowKind.Own.append (R := RR) (w := w.alloc (.cells (RR.enc (⟨x, y⟩ : RV)).toArray 24)) rfl _ _ rfl HA.out.out rfl [(⟨x, y⟩ : RV)] rfl HAp.out HLen1.out HA.out.size ?_; intro v' w' h1 h2; have HM := Lib.hid (HA.out.pushO h2 h1); have hlt := HA.out.out.lt; have HBw := Lib.hid ((HB0.out.grown h2 HA.out.size (fun k hk => (hlt k hk).1)).setCell (p := ⟨bm, 4, none⟩) H.out.hB v'); have hrow := (rowOf_block (h2.block bm HA.out.lt (fun e => HA.out.apartS (by decide) HA.out.out e.symm))).trans HA.out.row; have d4 : w'.cell? ⟨bm, 4, none⟩ = some (.slice po O.length co) := rowOf_cell hrow 4; have e4 := rowOf_frozen hrow 4; obtain ⟨p', c', rfl⟩ := h1.is.slice; clear hlt hrow h1 h2 c4; generalize (O ++ [(⟨x, y⟩ : RV)]).length = ln at *)
    go_returns
    exact ⟨rfl, HBw.out, fun _ => ⟨_, HM.out⟩⟩
end Go.Proofs.Ytcflfakffeglgaa
