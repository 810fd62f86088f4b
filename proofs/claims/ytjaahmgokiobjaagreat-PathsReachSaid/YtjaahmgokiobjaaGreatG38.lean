/- an append to one of the lists of a list of lists, and the store of what came of it -/
import Derived.Test.YtjaahmgokiobjaaGreatG35
import Derived.Test.YtjaahmgokiobjaaGreatG37
import Derived.Deep.RegionHeldLaw
import Derived.Deep.RegionLaw
import Derived.Deep.CutRange
namespace Go.Proofs.YtjaahmgokiobjaaGreat
open Go.RowKit
set_option linter.unusedVariables false
set_option linter.unusedSimpArgs false

theorem RHp_lit (w : World) (h : HV) : RHp.Own w.heap.size (w.alloc (.cells (hvRow h) 55)) (.slice (some ⟨w.heap.size, 0, none⟩) 1 1) [h] :=
  ⟨rfl, .inr ⟨w.heap.size, 1, hvRow h, rfl, Nat.le_refl _, heap_alloc_new w _, Nat.le_refl 1, by decide, rfl, rfl⟩⟩
theorem OHH.drew {B : Nat} {W : World} {blk : Nat} {svs : List SV} {rows : List (List HV)} (h : OHH B W blk svs rows) : OHH B W.drew blk svs rows := ⟨h.lo, h.heap, h.len, h.own, h.ne, h.sep⟩
/-- an append to one of the lists, and the store of what came of it -/
theorem OHH.grow {B : Nat} {W W' : World} {blk : Nat} {svs : List SV} {rows : List (List HV)} (h : OHH B W blk svs rows) (hB : B ≤ W.heap.size) {m : Nat} (hm : m < svs.length) {v : Value} {ys : List HV} (hg : W.grownBy W' svs[m]!.val.ownBlock)
    (ho : RHp.Own B W' v ys) (hn : StaysOrNew W svs[m]!.val v) : ∃ s : SV, v = s.val ∧ OHH B (W'.setCell ⟨blk, m, none⟩ v) blk (svs.set m s) (rows.set m ys) := by
  obtain ⟨p, c, e⟩ := ho.is.slice
  refine ⟨⟨p, ys.length, c⟩, e, ?_⟩
  have e2 : v = (⟨p, ys.length, c⟩ : SV).val := e
  rw [e2] at ho hn ⊢
  exact h.put hB hm hg.size (fun l hl hne => hg.block l hl (fun q => hne q.symm)) ho hn
theorem setCell_alloc {w : World} (b i : Nat) (v : Value) (o : Obj) (h : b < w.heap.size) : (w.setCell ⟨b, i, none⟩ v).alloc o = (w.alloc o).setCell ⟨b, i, none⟩ v := by
  unfold World.setCell World.alloc
  congr 1
  apply Array.ext_getElem?
  intro k
  simp only [Array.getElem?_modify, Array.getElem?_push, Array.size_modify]
  by_cases hk : k = w.heap.size
  · subst hk
    simp [Nat.ne_of_lt h]
  · simp [hk]
/-- what the world is behind an append to one of the lists, ahead of the store and behind it -/
structure OGrown (B : Nat) (W w5 : World) (blk m : Nat) (svs : List SV) (rows : List (List HV)) (v : Value) (ys : List HV) : Prop where
  cell : w5.cell? ⟨blk, m, none⟩ = some svs[m]!.val
  frozen : w5.frozen? ⟨blk, m, none⟩ = false
  old : ∀ b o x, b < B → W.cell? ⟨b, o, none⟩ = some x → w5.cell? ⟨b, o, none⟩ = some x
  new : ∃ s : SV, v = s.val ∧ OHH B (w5.setCell ⟨blk, m, none⟩ v) blk (svs.set m s) (rows.set m ys)
  below : Below B W (w5.setCell ⟨blk, m, none⟩ v)
  box : ∀ k c t, Boxed W k c t → t ≠ 55 → t ≠ 53 → Boxed (w5.setCell ⟨blk, m, none⟩ v) k c t
theorem OHH.app {B : Nat} {W w5 : World} {blk : Nat} {svs : List SV} {rows : List (List HV)} (h : OHH B W blk svs rows) (hB : B ≤ W.heap.size) {m : Nat} (hm : m < svs.length) {v : Value} {ys : List HV} (hg : W.grownBy w5 svs[m]!.val.ownBlock)
    (ho : RHp.Own B w5 v ys) (hn : StaysOrNew W svs[m]!.val v) : OGrown B W w5 blk m svs rows v ys := by
  have hlt := (h.own m hm).lt
  have hbl : w5.heap[blk]? = W.heap[blk]? := hg.block blk h.lt (fun e => h.ne m hm e.symm)
  refine ⟨?_, ?_, fun b o x hb hx => ?_, h.grow hB hm hg ho hn, ?_, fun k c t hbx h1 h2 => ?_⟩
  · rw [← h.cell m hm]
    unfold World.cell?
    rw [hbl]
  · rw [← h.frozen m]
    unfold World.frozen?
    rw [hbl]
  · rw [← hx]
    unfold World.cell?
    rw [hg.block b (by omega) (fun e => by have := (hlt b e.symm).1; omega)]
  · exact ((Below.refl B W).grown hg hB (fun k hk => (hlt k hk).1)).setCell (by show B ≤ blk; exact h.lo) v
  · have hne := (h.own m hm).ne_boxed hbx h1
    have hkb : k ≠ blk := fun e => by
      subst e
      have a := h.heap
      unfold Boxed at hbx
      rw [hbx] at a
      simp only [Option.some.injEq, Obj.cells.injEq] at a
      exact h2 a.2.1
    exact (Below.heap_setCell w5 ⟨blk, m, none⟩ v k hkb).trans ((hg.block k hbx.lt hne).trans hbx)
end Go.Proofs.YtjaahmgokiobjaaGreat
/- the program's row of the table -/
namespace Go.Proofs.YtjaahmgokiobjaaGreat
open Go.RowKit
set_option linter.unusedVariables false
set_option linter.unusedSimpArgs false
attribute [local go_sem ↓] loadHs loadWs storeH storeW
attribute [local simp] size_setRow
attribute [local go_sem] rowAt_head rowOf_alloc_at rowOf_alloc_past rowOf_drew rowOf_drewN rowOf_setRow_same rowOf_setRow_other rowOf_setCell_same rowOf_setCell_other size_setRow setRow_drew setRow_alloc_at setRow_alloc_past one_int one_bool cell_setRow_same cell_setRow_other frozen_setRow_same frozen_setRow_other
attribute [local go_sem ↓] run_imin
attribute [local go_sem] HV.enc WV.enc elemL_drew

theorem RWy_lit (w : World) (p : WV) (B : Nat) (hB : B ≤ w.heap.size) : RWy.Own B (w.alloc (.cells (wvRow p) 69)) (.slice (some ⟨w.heap.size, 0, none⟩) 1 1) [p] :=
  ⟨rfl, .inr ⟨w.heap.size, 1, wvRow p, rfl, hB, heap_alloc_new w _, Nat.le_refl 1, by decide, rfl, rfl⟩⟩
theorem boxed_row {w : World} {k : Nat} {c : Array Value} {t : TypeId} (h : Boxed w k c t) : rowOf w k = some c := by
  unfold Boxed at h
  unfold rowOf
  rw [h]
  simp
theorem boxed_elem1 {w : World} {k : Nat} {p : WV} (h : Boxed w k (wvRow p) 69) : elemL w ⟨k, 1, none⟩ 0 11 = some (HV.enc p.2) := row_elem1 (m := p.1) (x := p.2) (boxed_row h)
theorem OHH.lower {B C : Nat} {W : World} {blk : Nat} {svs : List SV} {rows : List (List HV)} (h : OHH B W blk svs rows) (hC : C ≤ B) : OHH C W blk svs rows :=
  ⟨Nat.le_trans hC h.lo, h.heap, h.len, fun m hm => (h.own m hm).mono hC, h.ne, h.sep⟩
/-- what row answers: a row of the call's own, its lists in whatever order -/
def PRowR (low : List (List HV)) (w : World) (e : Ending) (w' : World) : Prop :=
  ∃ blk svs rows, e = .returned (.slice (some ⟨blk, 0, none⟩) low.length low.length) ∧ OHH w.heap.size w' blk svs rows ∧ rows.length = low.length ∧ (∀ m, m < low.length → List.Perm rows[m]! low[m]!) ∧ Below w.heap.size w w'
/-- the world behind one put and the store of what came of it -/
theorem put_world {B : Nat} {W w5 : World} {blk m : Nat} {svs : List SV} {rows : List (List HV)} {v : Value} {ys : List HV} (hB : B ≤ W.heap.size) (H : OHH B W blk svs rows) (hm : m < svs.length) (hg : W.grownBy w5 svs[m]!.val.ownBlock) (O : OGrown B W w5 blk m svs rows v ys)
    {u : Value} {ws : List WV} (k : RWy.Own B W u ws) : RWy.Own B (w5.setCell ⟨blk, m, none⟩ v) u ws := by
  have hne := H.way_ne k
  refine k.keepJ fun l hl => ?_
  rw [Below.heap_setCell w5 ⟨blk, m, none⟩ v l (fun e => hne.1 (by rw [hl, e]))]
  exact hg.block l (k.lt l hl).2 fun e => hne.2 m hm l e.symm hl
set_option maxRecDepth 100000 in
set_option maxHeartbeats 40000000 in
theorem prow_any (g : GV) (v : Value) (n : Nat) (w : World) (h : IsG w v g) (M : May g) (T : Tree g) (hn : n < g.nodes.length) (K : Nat) (hK : K ≤ 460000000000)
    (hK1 : ∀ q, q < K → q < (biter (netE g) (bstart n g.nodes.length (sameG g n)) q).ws.length) (hK2 : (biter (netE g) (bstart n g.nodes.length (sameG g n)) K).ws.length = K) :
    Calls Tryz.prog 15 #[v, .int .i64 (n : Int)] w (PRowR ((biter (netE g) (bstart n g.nodes.length (sameG g n)) K).low) w) := by
  have R := M.runs
  have HTk : Hid (∀ W, Below w.heap.size w W → Calls Tryz.prog 34 #[v, .int .i64 (n : Int)] W (Ret (.int .i64 (levelG g n false : Int)) W)) := fun W hW => ptakes_any g v n W (h.below hW) M T hn
  have HSm : Hid (∀ W, Calls Tryz.prog 33 #[.int .i64 (levelG g n false : Int)] W (Ret (.tuple #[(sameG g n).val, .bool true]) W)) := fun W => by
    have q := Same_h (levelG g n false : Int) W
    have e : sameH (levelG g n false : Int) = sameG g n := rfl
    rw [e, sameG_right R hn, gate_yes] at q
    exact q
  have hends : ∀ e ∈ netE g, e.dst < g.nodes.length := fun e he => by
    obtain ⟨x, hx, rfl⟩ := List.mem_map.1 he
    obtain ⟨i, hi, e⟩ := List.getElem_of_mem hx
    have := (M.ends i hi).2.2.2
    rw [getElem!_pos _ i hi, e] at this
    exact this
  have HPl := Lib.hid (biter_place hends hn (sameG g n))
  have HFew := Lib.hid (biter_few (netE g) n g.nodes.length (sameG g n))
  have HLow : Hid (∀ k, ((biter (netE g) (bstart n g.nodes.length (sameG g n)) k).low).length = g.nodes.length) := fun k => (biter_low _ _ k).trans List.length_replicate
  have HMo : Hid (∀ k, k ≤ K → (biter (netE g) (bstart n g.nodes.length (sameG g n)) k).ws.length ≤ K) := fun k hk => by
    have := biter_mono (netE g) (bstart n g.nodes.length (sameG g n)) k (K - k)
    rw [show k + (K - k) = K by omega, hK2] at this
    exact this
  have HLg : Hid (∀ (m : Nat) (x : HV) W, m < g.nodes.length → Below w.heap.size w W → Calls Tryz.prog 36 #[v, WV.val (m, x)] W (RWy.Made (longerW (netE g) m x) W)) := fun m x W hm hW => plonger_any g v m x W (h.below hW) M T hm
  have HSu := Lib.hid (fun k p (hp : (biter (netE g) (bstart n g.nodes.length (sameG g n)) k).ws[k]! = p) => biter_succ (netE g) (bstart n g.nodes.length (sameG g n)) k hp)
  have hN32 : g.nodes.length ≤ 32 := M.nodes
  obtain ⟨p1, c1, p2, c2, p3, c3, p4, c4, rfl, G⟩ := h.go
  clear h G R M T hends
  have HK1 := Lib.hid hK1
  have HK2 := Lib.hid hK2
  clear hK1 hK2
  have hs0 : (bstart n g.nodes.length (sameG g n)) = ⟨[(n, sameG g n)], List.replicate g.nodes.length []⟩ := rfl
  have HI0 : Hid ((biter (netE g) (bstart n g.nodes.length (sameG g n)) 0).ws = [(n, sameG g n)] ∧ (biter (netE g) (bstart n g.nodes.length (sameG g n)) 0).low = List.replicate g.nodes.length []) := ⟨rfl, rfl⟩
  clear hs0
  generalize (levelG g n false : Int) = d at *
  generalize sameG g n = h0 at *
  generalize hbst : bstart n g.nodes.length h0 = s0 at *
  clear hbst
  generalize netE g = E at *
  generalize g.parent.length = n1 at *
  generalize g.bound.length = n2 at *
  generalize g.nodes.length = N at *
  generalize g.edges.length = n4 at *
  have hmk := fun W => make_hh N (by omega) W
  have HO0 : Hid (OHH (w.heap.size + 1) ((w.alloc (.cells #[.slice p1 n1 c1, .slice p2 n2 c2, .slice p3 N c3, .slice p4 n4 c4] 26)).alloc (.cells (svCells (List.replicate N ⟨none, 0, 0⟩)) 53)) (w.heap.size + 1) (List.replicate N ⟨none, 0, 0⟩) (List.replicate N [])) := by
    have q := OHH.made (w.alloc (.cells #[.slice p1 n1 c1, .slice p2 n2 c2, .slice p3 N c3, .slice p4 n4 c4] 26)) N
    have e : (w.alloc (.cells #[.slice p1 n1 c1, .slice p2 n2 c2, .slice p3 N c3, .slice p4 n4 c4] 26)).heap.size = w.heap.size + 1 := by simp
    rw [e] at q
    exact q
  have HB0 : Hid (Below (w.heap.size + 1) (w.alloc (.cells #[.slice p1 n1 c1, .slice p2 n2 c2, .slice p3 N c3, .slice p4 n4 c4] 26)) ((w.alloc (.cells #[.slice p1 n1 c1, .slice p2 n2 c2, .slice p3 N c3, .slice p4 n4 c4] 26)).alloc (.cells (svCells (List.replicate N ⟨none, 0, 0⟩)) 53))) := (Below.refl _ _).alloc (by simp) _
  have hg0 : rowOf (w.alloc (.cells #[.slice p1 n1 c1, .slice p2 n2 c2, .slice p3 N c3, .slice p4 n4 c4] 26)) w.heap.size = some #[.slice p1 n1 c1, .slice p2 n2 c2, .slice p3 N c3, .slice p4 n4 c4] := row_new rfl
  have HGr : Hid (∀ W, Below (w.heap.size + 1) (w.alloc (.cells #[.slice p1 n1 c1, .slice p2 n2 c2, .slice p3 N c3, .slice p4 n4 c4] 26)) W → rowOf W w.heap.size = some #[.slice p1 n1 c1, .slice p2 n2 c2, .slice p3 N c3, .slice p4 n4 c4]) := fun W hW => rowOf_below hg0 hW (by omega)
  have HBw : Hid (∀ W, Below (w.heap.size + 1) (w.alloc (.cells #[.slice p1 n1 c1, .slice p2 n2 c2, .slice p3 N c3, .slice p4 n4 c4] 26)) W → Below w.heap.size w W) := fun W hW => ((Below.refl w.heap.size w).alloc (Nat.le_refl _) _).trans (hW.mono (by omega))
  clear hg0
  go_enter Tryz.func15, Tryz.ntmps15
  go_wp2_with fail
  refine gen_c (fun W2 => Hid (Below (w.heap.size + 1) (w.alloc (.cells #[.slice p1 n1 c1, .slice p2 n2 c2, .slice p3 N c3, .slice p4 n4 c4] 26)) W2) ∧ Hid (OHH (w.heap.size + 1) W2 (w.heap.size + 1) (List.replicate N ⟨none, 0, 0⟩) (List.replicate N []))) ⟨HB0, HO0⟩ ?_
  clear HB0 HO0 hmk
  rintro w2 ⟨HB2, HO2⟩
  refine (HTk.out _ (HBw.out _ HB2.out)).mono ?_
  rintro e w3 ⟨rfl, hb⟩
  have HB3 : Hid (Below (w.heap.size + 1) (w.alloc (.cells #[.slice p1 n1 c1, .slice p2 n2 c2, .slice p3 N c3, .slice p4 n4 c4] 26)) w3) := HB2.out.trans (hb.mono (by have := HO2.out.lt; omega))
  have HO3 := Lib.hid (HO2.out.below hb)
  clear hb HB2 HO2 HTk
  go_wp2_with fail
  refine (HSm.out _).mono ?_
  rintro e w4 ⟨rfl, hb⟩
  have HB4 : Hid (Below (w.heap.size + 1) (w.alloc (.cells #[.slice p1 n1 c1, .slice p2 n2 c2, .slice p3 N c3, .slice p4 n4 c4] 26)) w4) := HB3.out.trans (hb.mono (by have := HO3.out.lt; omega))
  have HO4 := Lib.hid (HO3.out.below hb)
  have hz4 : w.heap.size + 1 ≤ w4.heap.size := Nat.le_of_lt HO4.out.lt
  clear hb HB3 HO3 HSm
  go_upto_region 3 with (fail)
  refine gen_world (fun W5 => Below w4.heap.size w4 W5 ∧ rowOf W5 w4.heap.size = some (hvRow h0)) ⟨by first | exact (Below.refl _ _).alloc (Nat.le_refl _) _ | go_grown, by first | exact rowOf_alloc_at _ _ _ rfl | skip⟩ ?_
  rintro w5 ⟨hB5, hr5⟩
  have E5 := row_elem hr5
  have HB5 : Hid (Below (w.heap.size + 1) (w.alloc (.cells #[.slice p1 n1 c1, .slice p2 n2 c2, .slice p3 N c3, .slice p4 n4 c4] 26)) w5) := HB4.out.trans (hB5.mono hz4)
  have HO5 := Lib.hid (HO4.out.below hB5)
  have hz5 : w.heap.size + 1 ≤ w5.heap.size := Nat.le_of_lt HO5.out.lt
  clear hB5 hr5 HB4 HO4 hz4
  go_wp2
  go_loopg [8, 9] K (fun gg wv iv wr => ∃ (k : Nat) (svs : List SV), k ≤ K ∧ K - k ≤ gg ∧ iv = .int .i64 (k : Int) ∧ Hid (RWy.Own (w.heap.size + 1) wr wv (biter E s0 k).ws) ∧ Hid (OHH (w.heap.size + 1) wr (w.heap.size + 1) svs (biter E s0 k).low) ∧ Hid (Below (w.heap.size + 1) (w.alloc (.cells #[.slice p1 n1 c1, .slice p2 n2 c2, .slice p3 N c3, .slice p4 n4 c4] 26)) wr))
  case atStart =>
    refine ⟨0, List.replicate N ⟨none, 0, 0⟩, Nat.zero_le _, by omega, rfl, ?_, ?_, HB5.out.alloc hz5 _⟩
    · rw [HI0.out.1]
      exact RWy_lit w5 (n, h0) _ hz5
    · rw [HI0.out.2]
      exact HO5.out.below ((Below.refl _ _).alloc (Nat.le_refl _) _)
  case round =>
    clear HO5 HB5 hz5 E5
    obtain ⟨k, svs, hkK, hgg, rfl, HW, HO, HB⟩ := hrel
    obtain ⟨pa, ca, hv⟩ := HW.out.is.slice
    subst hv
    have hz : w.heap.size + 1 ≤ wr.heap.size := Nat.le_of_lt HO.out.lt
    by_cases hlt : k < K
    · have hkl := HK1.out k hlt
      obtain ⟨gq, rfl, E1⟩ := own_elemW HW.out k hkl
      have hpl := HPl.out k k hkl
      have hfew := HFew.out k ((biter E s0 k).ws[k]!).1
      have hlow := HLow.out k
      have hmo := HMo.out k hkK
      have hmo1 := HMo.out (k + 1) hlt
      have hsu := HSu.out k _ rfl
      generalize (biter E s0 k).ws[k]! = p at *
      have HSk := Lib.hid hsu
      have hsl : svs.length = N := HO.out.len.trans hlow
      have hps : p.1 < svs.length := by omega
      have hkz : (k : Int) < ((biter E s0 k).ws.length : Int) := by omega
      clear hsu
      generalize hws : (biter E s0 k).ws = ws at *
      generalize hlo : (biter E s0 k).low = low at *
      go_upto_region 8 with (fail)
      refine gen_world (fun W3 => Below wr.heap.size wr W3 ∧ Boxed W3 wr.heap.size (wvRow p) 69) ⟨by first | exact (Below.refl _ _).alloc (Nat.le_refl _) _ | go_grown, by first | exact heap_alloc_new _ _ | skip⟩ ?_
      rintro w3 ⟨hB3, hx3⟩
      have HB3 : Hid (Below (w.heap.size + 1) (w.alloc (.cells #[.slice p1 n1 c1, .slice p2 n2 c2, .slice p3 N c3, .slice p4 n4 c4] 26)) w3) := HB.out.trans (hB3.mono hz)
      have HW3 := Lib.hid (HW.out.below hB3)
      have HO3 := Lib.hid (HO.out.below hB3)
      have hz3 : w.heap.size + 1 ≤ w3.heap.size := Nat.le_of_lt HO3.out.lt
      have HX3 := Lib.hid hx3
      generalize hbx : wr.heap.size = bx at *
      clear hbx E1 hB3 hx3 HW HO HB hz
      go_upto_region 9 with (fail)
      have HPut : Hid (Calls Tryz.prog 35 #[svs[p.1]!.val, p.2.val] w3.drew (PutP low[p.1]! p.2 svs[p.1]!.val (w.heap.size + 1) w3.drew)) := pput_any _ _ _ _ _ (by omega) (HO3.out.drew.own p.1 hps) hz3
      have HAp := Lib.hid (fun v5 w5 ys (ho : RHp.Own (w.heap.size + 1) w5 v5 ys) (hg : w3.drew.grownBy w5 svs[p.1]!.val.ownBlock) (hs : StaysOrNew w3.drew svs[p.1]!.val v5) => HO3.out.drew.app hz3 hps hg ho hs)
      have HWw := Lib.hid (fun v5 w5 ys hg (O : OGrown (w.heap.size + 1) w3.drew w5 (w.heap.size + 1) p.1 svs low v5 ys) => put_world (B := w.heap.size + 1) (W := w3.drew) hz3 HO3.out.drew hps hg O HW3.out.drew)
      have HXd : Hid (Boxed w3.drew bx (wvRow p) 69) := HX3.out
      have hcs := HO3.out.cell p.1 hps
      have hfr := HO3.out.frozen p.1
      have hcx := fun i => HX3.out.cell i
      have xE := boxed_elem1 HX3.out
      have x0 : w3.cell? ⟨bx, 0, none⟩ = some (.int .i64 (p.1 : Int)) := hcx 0
      have x1 : w3.cell? ⟨bx, 1, none⟩ = some (.int .i64 p.2.f) := hcx 1
      have x2 : w3.cell? ⟨bx, 2, none⟩ = some (.int .i64 p.2.k) := hcx 2
      have x3 : w3.cell? ⟨bx, 3, none⟩ = some (.int .i64 p.2.t) := hcx 3
      have x4 : w3.cell? ⟨bx, 4, none⟩ = some (.int .i64 p.2.a0) := hcx 4
      have x5 : w3.cell? ⟨bx, 5, none⟩ = some (.int .i64 p.2.a1) := hcx 5
      have x6 : w3.cell? ⟨bx, 6, none⟩ = some (.int .i64 p.2.a2) := hcx 6
      have x7 : w3.cell? ⟨bx, 7, none⟩ = some (.int .i64 p.2.a3) := hcx 7
      have x8 : w3.cell? ⟨bx, 8, none⟩ = some (.int .i64 p.2.b0) := hcx 8
      have x9 : w3.cell? ⟨bx, 9, none⟩ = some (.int .i64 p.2.b1) := hcx 9
      have x10 : w3.cell? ⟨bx, 10, none⟩ = some (.int .i64 p.2.b2) := hcx 10
      have x11 : w3.cell? ⟨bx, 11, none⟩ = some (.int .i64 p.2.b3) := hcx 11
      generalize hsv : svs[p.1]! = sv at *
      obtain ⟨qs, ns, cs⟩ := sv
      have hpN : (p.1 : Int) < (N : Int) := by omega
      clear hcx
      have HBx : Hid (∀ w5, w3.drew.grownBy w5 (SV.val ⟨qs, ns, cs⟩).ownBlock → Boxed w5 bx (wvRow p) 69) := fun w5 hg => by
        have o := HO3.out.drew.own p.1 hps
        rw [hsv] at o
        exact (hg.block bx HXd.out.lt (o.ne_boxed HXd.out (by decide))).trans HXd.out
      have HWS : Hid (∀ v5 w5 ys, w3.drew.grownBy w5 (SV.val ⟨qs, ns, cs⟩).ownBlock → OGrown (w.heap.size + 1) w3.drew w5 (w.heap.size + 1) p.1 svs low v5 ys → RWy.Own (w.heap.size + 1) (w5.setCell ⟨w.heap.size + 1, p.1, none⟩ v5) (.slice (some ⟨gq, 0, none⟩) ws.length ca) ws) := fun v5 w5 ys hg O => HWw.out v5 w5 ys hg O
      have HCe : Hid (∀ v5 w5 ys, OGrown (w.heap.size + 1) w3.drew w5 (w.heap.size + 1) p.1 svs low v5 ys → w5.cell? ⟨w.heap.size + 1, p.1, none⟩ = some (.slice qs ns cs)) := fun v5 w5 ys O => by
        have := O.cell
        rw [hsv] at this
        exact this
      clear HWw hsv
      generalize hlq : low[p.1]! = lq at *
      clear hlq
      go_cut [11] from 39 to 54 (fun v11 wx => v11 = .bool (!putNo lq p.2) ∧ Hid (∃ svs', OHH (w.heap.size + 1) wx (w.heap.size + 1) svs' (low.set p.1 (putL lq p.2))) ∧ Hid (RWy.Own (w.heap.size + 1) wx (.slice (some ⟨gq, 0, none⟩) ws.length ca) ws) ∧ Hid (Boxed wx bx (wvRow p) 69) ∧ Hid (Below (w.heap.size + 1) (w.alloc (.cells #[.slice p1 n1 c1, .slice p2 n2 c2, .slice p3 N c3, .slice p4 n4 c4] 26)) wx))
      case first =>
        go_region_law (first | (go_simp; go_at_call 35; (with_reducible refine Calls.mono HPut.out ?_); rintro e wn ⟨v5, rfl, ho, hg, hs⟩; have hA := HAp.out v5 wn _ ho hg hs; have hBx := HBx.out wn hg; have n0 : wn.cell? ⟨bx, 0, none⟩ = some (.int .i64 (p.1 : Int)) := hBx.cell 0; have n1 : wn.cell? ⟨bx, 1, none⟩ = some (.int .i64 p.2.f) := hBx.cell 1; have n2 : wn.cell? ⟨bx, 2, none⟩ = some (.int .i64 p.2.k) := hBx.cell 2; have n3 : wn.cell? ⟨bx, 3, none⟩ = some (.int .i64 p.2.t) := hBx.cell 3; have n4 : wn.cell? ⟨bx, 4, none⟩ = some (.int .i64 p.2.a0) := hBx.cell 4; have n5 : wn.cell? ⟨bx, 5, none⟩ = some (.int .i64 p.2.a1) := hBx.cell 5; have n6 : wn.cell? ⟨bx, 6, none⟩ = some (.int .i64 p.2.a2) := hBx.cell 6; have n7 : wn.cell? ⟨bx, 7, none⟩ = some (.int .i64 p.2.a3) := hBx.cell 7; have n8 : wn.cell? ⟨bx, 8, none⟩ = some (.int .i64 p.2.b0) := hBx.cell 8; have n9 : wn.cell? ⟨bx, 9, none⟩ = some (.int .i64 p.2.b1) := hBx.cell 9; have n10 : wn.cell? ⟨bx, 10, none⟩ = some (.int .i64 p.2.b2) := hBx.cell 10; have n11 : wn.cell? ⟨bx, 11, none⟩ = some (.int .i64 p.2.b3) := hBx.cell 11; have nc := HCe.out _ _ _ hA; have nf := hA.frozen; have hW5 := HWS.out _ _ _ hg hA; have hX5 := hA.box bx _ _ HXd.out (by decide) (by decide); have hbl := hA.below; obtain ⟨⟨q5, n5, d5⟩, hv5, hN⟩ := hA.new; subst hv5; have HN := Lib.hid hN; have HBl := Lib.hid hbl; have HW5 := Lib.hid hW5; have HX5 := Lib.hid hX5; clear hA hBx hW5 hX5 hN hbl ho hg hs))
        all_goals
          try simp only [List.getElem_toArray, List.getElem_cons_succ, List.getElem_cons_zero, Act.put, List.setIfInBounds_toArray, List.set_cons_zero, List.set_cons_succ]
          go_wp2_with fail
          go_meet
          case rel => exact ⟨rfl, ⟨_, HN.out⟩, HW5.out, HX5.out, HB3.out.drew.trans HBl.out⟩
      case rest =>
        obtain ⟨rfl, hO, hW, hX, hB⟩ := hcut
        have HOx := Lib.hid hO
        have HWx := Lib.hid hW
        have HXx := Lib.hid hX
        have HBx2 := Lib.hid hB
        clear hO hW hX hB HPut HAp HXd HBx HWS HCe HX3 HW3 HO3 HB3 hcs hfr xE x0 x1 x2 x3 x4 x5 x6 x7 x8 x9 x10 x11
        by_cases hp : putNo lq p.2 = true
        · have hs1 : (biter E s0 (k + 1)).ws = ws ∧ (biter E s0 (k + 1)).low = low.set p.1 (putL lq p.2) := by
            have q := HSk.out
            rw [if_pos hp] at q
            exact q
          have HS1 := Lib.hid hs1
          rw [hp]
          clear hs1 HSk hp
          go_wp2
          go_roundg (K - (k + 1))
          case measure => omega
          case rel =>
            obtain ⟨svs', hO⟩ := HOx.out
            exact ⟨k + 1, svs', hlt, Nat.le_refl _, by go_num, by rw [HS1.out.1]; exact HWx.out, by rw [HS1.out.2]; exact hO, HBx2.out⟩
        · have hs1 : (biter E s0 (k + 1)).ws = ws ++ longerW E p.1 p.2 ∧ (biter E s0 (k + 1)).low = low.set p.1 (putL lq p.2) := by
            have q := HSk.out
            rw [if_neg hp] at q
            exact q
          have HS1 := Lib.hid hs1
          have hpf : putNo lq p.2 = false := by cases q : putNo lq p.2 <;> simp_all
          rw [hpf]
          have hLen : (ws.length + (longerW E p.1 p.2).length) * RWy.bytes ≤ 140737488355328 := by
            have q := hmo1
            rw [hs1.1, List.length_append] at q
            show _ * 96 ≤ _
            omega
          have HLen := Lib.hid hLen
          clear hs1 HSk hp hpf hLen
          obtain ⟨svs', hO'⟩ := HOx.out
          have HOy := Lib.hid hO'
          clear hO' HOx
          have gr := HGr.out _ HBx2.out
          have g_0 := (rowOf_cell gr 0 : _ = some (Value.slice p1 n1 c1))
          have g_1 := (rowOf_cell gr 1 : _ = some (Value.slice p2 n2 c2))
          have g_2 := (rowOf_cell gr 2 : _ = some (Value.slice p3 N c3))
          have g_3 := (rowOf_cell gr 3 : _ = some (Value.slice p4 n4 c4))
          have EW := row_elemW (boxed_row HXx.out)
          have HLx := Lib.hid (HLg.out p.1 p.2 _ hpl (HBw.out _ HBx2.out))
          have hzx := Nat.succ_le_of_lt HOy.out.lt
          clear gr
          go_wp2_with fail
          refine (HLx.out).mono ?_
          rintro e wy ⟨vl, rfl, hOl, hbl⟩
          have HBy : Hid (Below (w.heap.size + 1) (w.alloc (.cells #[.slice p1 n1 c1, .slice p2 n2 c2, .slice p3 N c3, .slice p4 n4 c4] 26)) wy) := HBx2.out.trans (hbl.mono (Nat.le_of_succ_le hzx))
          have HWy := Lib.hid (HWx.out.below hbl)
          have HOz := Lib.hid (HOy.out.below hbl)
          have hzy : w.heap.size + 1 ≤ wy.heap.size := Nat.le_of_lt HOz.out.lt
          have HIl := Lib.hid hOl.is
          obtain ⟨pl, cl, hvl⟩ := hOl.is.slice
          subst hvl
          clear hOl hbl g_0 g_1 g_2 g_3 EW HLx HWx HOy HBx2
          go_wp2_with (at_builtin; refine RowKind.Own.appendAnyBL (R := RWy) (by decide) rfl _ _ rfl HWy.out rfl rfl HIl.out HLen.out hzy ?_; intro v6 w6 hO6 hG6 _)
          have hne := HOz.out.way_ne HWy.out
          have HO6 := Lib.hid hO6
          have HH6 := Lib.hid (HOz.out.apart hG6 hne.1 hne.2)
          have HB6 : Hid (Below (w.heap.size + 1) (w.alloc (.cells #[.slice p1 n1 c1, .slice p2 n2 c2, .slice p3 N c3, .slice p4 n4 c4] 26)) w6) := HBy.out.grown hG6 hzy (fun i hi => (HWy.out.lt i hi).1)
          clear hO6 hG6 hne HOz HWy HBy HIl
          go_wp2
          go_roundg (K - (k + 1))
          case measure => omega
          case rel => exact ⟨k + 1, svs', hlt, Nat.le_refl _, by go_num, by rw [HS1.out.1]; exact HO6.out, by rw [HS1.out.2]; exact HH6.out, HB6.out⟩
    · obtain rfl : k = K := by omega
      have hkz : ¬ (k : Int) < ((biter E s0 k).ws.length : Int) := by rw [HK2.out]; omega
      have hlow := HLow.out k
      have HFk := Lib.hid (HFew.out k)
      clear HLg HSu HPl HMo HK1 HFew HLow HI0
      generalize (biter E s0 k).low = low at *
      generalize (biter E s0 k).ws = ws at *
      have HLw := Lib.hid hlow
      have hzN : w.heap.size + 1 ≤ wr.heap.size := hz
      have HBe : Hid (Below w.heap.size w wr) := HBw.out _ HB.out
      clear HB HBw HGr HW
      go_wp2
      clear hkz
      go_loopg [62] N (fun gg jv wx => ∃ (j : Nat) (rows : List (List HV)), j ≤ N ∧ N - j ≤ gg ∧ jv = .int .i64 (j : Int) ∧ Hid (OHH (w.heap.size + 1) wx (w.heap.size + 1) svs rows) ∧ Hid (rows.length = N ∧ ∀ m, m < N → List.Perm rows[m]! low[m]!) ∧ Hid (Below w.heap.size w wx))
      case atStart => exact ⟨0, low, Nat.zero_le _, by omega, rfl, HO.out, ⟨HLw.out, fun m _ => List.Perm.refl _⟩, HBe.out⟩
      case round =>
        obtain ⟨j, rows, hjN, hgg2, rfl, HO2, HP2, HB2⟩ := hrel
        by_cases hjt : j < N
        · have hjz : (j : Int) < (N : Int) := by omega
          have hjs : j < svs.length := by rw [HO2.out.len, HP2.out.1]; exact hjt
          have hcj := HO2.out.cell j hjs
          have hlj : List.length rows[j]! ≤ 1000000000000000 := by
            have := (HP2.out.2 j hjt).length_eq
            have := HFk.out j
            omega
          have HSo := Lib.hid (hsort_own (w.heap.size + 1) svs[j]!.val rows[j]! wr (HO2.out.own j hjs) (Nat.le_of_lt HO2.out.lt) hlj)
          have HTu := Lib.hid (fun w' ys (hg : wr.grownBy w' svs[j]!.val.ownBlock) (ho : RHp.Own (w.heap.size + 1) w' svs[j]!.val ys) => HO2.out.turn hjs hg ho)
          have HBg := Lib.hid (fun w' (hb : Below (w.heap.size + 1) wr w') => HB2.out.trans (hb.mono (Nat.le_succ _)))
          have HPs := Lib.hid (fun (ys : List HV) (hy : ys.Perm rows[j]!) => (⟨by rw [List.length_set]; exact HP2.out.1, fun m hm => by
            rw [set_get _ _ _ _ (by rw [HP2.out.1]; exact hjt)]
            split
            · rename_i e
              subst e
              exact hy.trans (HP2.out.2 _ hm)
            · exact HP2.out.2 m hm⟩ : (rows.set j ys).length = N ∧ ∀ m, m < N → List.Perm (rows.set j ys)[m]! low[m]!))
          generalize svs[j]! = sv at *
          obtain ⟨qs, ns, cs⟩ := sv
          clear hlj hjs
          go_wp2_with fail
          refine (HSo.out).mono ?_
          rintro e w7 ⟨rfl, ys, hy, ho, hb, hg⟩
          have HO7 := Lib.hid (HTu.out w7 ys hg ho)
          have HB7 := Lib.hid (HBg.out w7 hb)
          have HP7 := Lib.hid (HPs.out ys hy)
          clear hy ho hb hg HSo HTu HBg HPs hcj
          go_wp2
          go_roundg (N - (j + 1))
          case measure => omega
          case rel => exact ⟨j + 1, rows.set j ys, by omega, by omega, by go_num, HO7.out, HP7.out, HB7.out⟩
        · have hjz : ¬ (j : Int) < (N : Int) := by omega
          obtain rfl : j = N := by omega
          go_wp2
          go_returns
          refine ⟨w.heap.size + 1, svs, rows, by rw [HLw.out]; rfl, HO2.out.lower (Nat.le_succ _), by rw [HP2.out.1, HLw.out], fun m hm => HP2.out.2 m (by rw [← HLw.out]; exact hm), HB2.out⟩
end Go.Proofs.YtjaahmgokiobjaaGreat
