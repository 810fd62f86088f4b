/- what slices.Delete and slices.Insert of one element want, whatever the elements -/
import Derived.Test.YthhceggcdaljdaaGreatG10
import Derived.Deep.RegionLaw
import Derived.Test.YthhceggcdaljdaaGreatG07
namespace Go.Proofs.YthhceggcdaljdaaGreat
open Go.RowKit
set_option linter.unusedVariables false
set_option linter.unusedSimpArgs false
set_option linter.unusedSectionVars false

theorem grown_tr {w w' w'' : World} {r : Option Nat} (h : w.grownBy w' r) (k : w'.grownBy w'' r) : w.grownBy w'' r :=
  ⟨k.os.trans h.os, k.tape.trans h.tape, k.output.trans h.output, Nat.le_trans h.size k.size, fun i hi hne => (k.block i (Nat.lt_of_lt_of_le hi h.size) hne).trans (h.block i hi hne)⟩
theorem grown_refl (w : World) (r : Option Nat) : w.grownBy w r := ⟨rfl, rfl, rfl, Nat.le_refl _, fun _ _ _ => rfl⟩
theorem grown_of {w w' : World} (h : Below w.heap.size w w') (r : Option Nat) : w.grownBy w' r := ⟨h.os, h.tape, h.output, h.size, fun i hi _ => h.block i hi⟩
theorem wpList_copyK {P : Program} {ops : Array Oper} {rest : List Oper} {o : Oper} {a : Act} {Q : Exit → Act → World → Prop} {w w' : World} {v vd vs : Value} (hgd : o.guard = none) (d s : Operand) (t : TypeId)
    (ho : o.op = .call { callee := .builtin .copy, args := #[d, s], argTypes := #[t, t] }) (hd : a.eval d = vd) (hs : a.eval s = vs) (hr : (Builtin.copy_ #[t, t] o.type #[vd, vs]).run P w = .ok v w') (h : wpList P ops Q rest (a.put o.dst v) w') : wpList P ops Q (o :: rest) a w :=
  wpList_plain hgd fun _ hK => wp_copy_runK ho (by rw [hd, hs]; exact hr) (hK _ _ h)
theorem step_copyK {P : Program} {ops : Array Oper} {o : Oper} {a : Act} {K : Act → World → Prop} {Q : Exit → Act → World → Prop} {E : Prop} {w w' : World} {v vd vs : Value} (hgd : o.guard = none) (d s : Operand) (t : TypeId)
    (ho : o.op = .call { callee := .builtin .copy, args := #[d, s], argTypes := #[t, t] }) (hd : a.eval d = vd) (hs : a.eval s = vs) (hr : (Builtin.copy_ #[t, t] o.type #[vd, vs]).run P w = .ok v w') (h : K (a.put o.dst v) w') :
    if Region.wanted o (yielded ops a.tmps) = true then Oper.wp P o a w K Q else E := by
  have hw : Region.wanted o (yielded ops a.tmps) = true := by simp [Region.wanted, hgd]
  rw [if_pos hw]
  exact wp_copy_runK ho (by rw [hd, hs]; exact hr) h
namespace RowKind
section
variable {α : Type} [Inhabited α] {R : RowKind α}
/-- room for k more, where there is none: a row is made, with the first i of the old -/
theorem run_growZ {w : World} {B : Nat} {g n cap i k : Nat} {xs : List α} (h : R.Own B w (.slice (some ⟨g, 0, none⟩) n cap) xs) (hi : i ≤ xs.length) (h0 : 0 < k) (hg : cap < i + k) (hl : i + k ≤ 1000000) {m : Nat} (hmm : m = i + k) (tn : TypeId) (kn : IntKind) (htn : Tryz.prog.underlying tn = some (.int kn)) (ty : TypeId) :
    ∃ cp cur w', (Builtin.append_ #[R.tS, tn] ty #[.slice (some ⟨g, 0, none⟩) i cap, .int .i64 (k : Int)]).run Tryz.prog w = .ok (.slice (some ⟨w.heap.size, 0, none⟩) m cp) w' ∧ w'.heap[w.heap.size]? = some (.cells cur R.tE (0, 0)) ∧ cur.size = cp * R.k ∧ m ≤ cp ∧ cp ≤ maxLen ∧ (∀ t, t < i * R.k → cur[t]? = (R.cells xs)[t]?) ∧ Below w.heap.size w w' ∧ w.heap.size < w'.heap.size := by
  subst hmm
  obtain ⟨i0, hi0, hz0, hz1, hz2⟩ := info_parts R.info
  have hF := h.front hi
  obtain ⟨cur0, hg0, hn0, hB0, hc0, hm0, hs0, ht0⟩ := hF.row
  have lt : (xs.take i).length = i := by rw [List.length_take]; omega
  have hcl : ∀ j u, (R.cells (xs.take i))[j]? = some u → w.drew.cell? ((⟨g, 0, none⟩ : Addr).add j) = some u := fun j u hu => by
    rw [Addr.add_lit, Nat.zero_add]
    rw [← ht0, List.getElem?_take] at hu
    split at hu
    · show w.cell? ⟨g, j, none⟩ = _
      unfold World.cell?
      simp only [hg0]
      rwa [Array.getElem?_toList] at hu
    · cases hu
  have hold := run_firstCells_some (P := Tryz.prog) (w := w.drew) i0.size i ⟨g, 0, none⟩ i cap (R.cells (xs.take i)) (by rw [R.cells_len, lt, hz1]) hcl
  have hby : (i + k) * i0.bytes ≤ 140737488355328 := by rw [hz2]; exact byt_ok hl
  have hrun := Lib.run_append_grow_zeros (P := Tryz.prog) w R.tS tn ty R.tE i0 R.zero .i64 kn R.under htn hi0 hz0 (some ⟨g, 0, none⟩) i cap (R.cells (xs.take i)) hold k h0 (by rw [hz1]; exact R.k0) hg (by omega)
    (by have : k * i0.bytes ≤ (i + k) * i0.bytes := Nat.mul_le_mul_right _ (by omega)
        omega) (growslice_fits hg hby)
  have hge := grownCap_ge w (i + k) cap R.tE
  have hle := grownCap_le_maxLen w (i + k) cap R.tE (by unfold maxLen; omega)
  refine ⟨_, _, _, hrun, heap_alloc_new w.drew _, ?_, hge, hle, fun t ht => ?_, ((Below.refl w.heap.size w).drew.alloc (Nat.le_refl _) _), by simp⟩
  · rw [Array.size_append, Array.size_append, size_zeroCells, size_zeroCells, R.zlen, List.size_toArray, R.cells_len, lt, ← Nat.add_mul, ← Nat.add_mul]
    refine congrArg (fun z => z * R.k) ?_
    omega
  · have e1 : R.cells xs = R.cells (xs.take i) ++ R.cells (xs.drop i) := by rw [← R.cells_append, List.take_append_drop]
    have l1 : (R.cells (xs.take i)).length = i * R.k := by rw [R.cells_len, lt]
    rw [e1, List.getElem?_append_left (by omega), Array.append_assoc, Array.getElem?_append_left (by simp; omega)]
    simp
end
end RowKind
theorem shape_boxed {w : World} {b : Nat} {c : Array Value} {t : TypeId} (h : Boxed w b c t) : w.shape? b = some (t, c.size) := by
  unfold World.shape?
  rw [h]
end Go.Proofs.YthhceggcdaljdaaGreat
/- slices.Delete of one element, in a row of the call's own: slots -/
namespace Go.Proofs.YthhceggcdaljdaaGreat
open Go.RowKit
set_option linter.unusedVariables false
set_option linter.unusedSimpArgs false

set_option maxRecDepth 100000 in
set_option maxHeartbeats 16000000 in
theorem pdelS_any (xs : List SW) (g cap i B : Nat) (w : World) (h : RSl.Own B w (.slice (some ⟨g, 0, none⟩) xs.length cap) xs) (hi : i < xs.length) (hl : xs.length ≤ 900000) (hB : B ≤ w.heap.size) : Calls Tryz.prog 91 #[.slice (some ⟨g, 0, none⟩) xs.length cap, .int .i64 (i : Int), .int .i64 ((i + 1 : Nat) : Int)] w (fun e w' => e = .returned (.slice (some ⟨g, 0, none⟩) (xs.length - 1) cap) ∧ RSl.Own B w' (.slice (some ⟨g, 0, none⟩) (xs.length - 1) cap) (xs.eraseIdx i) ∧ w.grownBy w' (some g)) := by
  obtain ⟨cur, hg, hn, hBg, hc, hm, hs, ht⟩ := h.row
  have HFr := Lib.hid (h.front (i := i) (by omega))
  have HAp : Hid (∀ (W : World) (ad : Addr) (m c : Nat), W.heap[g]? = w.heap[g]? → (i + 1 < xs.length → ad = ⟨g, (i + 1) * 10, none⟩) → m = xs.length - (i + 1) → RSl.App W (.slice (some ad) m c) (xs.drop (i + 1))) := fun W ad m c hW had hm => h.appFrom (by omega) hW had hm
  have HEq : Hid (xs.take i ++ xs.drop (i + 1) = xs.eraseIdx i) := (List.eraseIdx_eq_take_drop_succ _ _).symm
  have HLt : Hid ((xs.take i).length = i) := by rw [Hid, List.length_take]; omega
  have HLd : Hid ((xs.drop (i + 1)).length = xs.length - (i + 1)) := by rw [Hid, List.length_drop]
  have HLe : Hid ((xs.eraseIdx i).length = xs.length - 1) := by rw [Hid, List.length_eraseIdx, if_pos hi]
  generalize xs.drop (i + 1) = yd at *
  generalize xs.take i = yt at *
  generalize xs.eraseIdx i = ye at *
  generalize xs.length = n at *
  have i1 : (i : Int) ≤ ((i + 1 : Nat) : Int) := by omega
  have i2 : ((i + 1 : Nat) : Int) ≤ (n : Int) := by omega
  have i3 : (n : Int) ≤ (cap : Int) := by omega
  have i4 : ((i : Int) == ((i + 1 : Nat) : Int)) = false := by simp; omega
  have i5 : (i : Int) ≤ (cap : Int) := by omega
  have i6 : i + 1 ≤ n := by omega
  have i7 : n ≤ cap := by omega
  have i8 : i ≤ cap := by omega
  have i9 : i ≤ i + 1 := by omega
  have j0 : 0 ≤ (i : Int) + 1 := by omega
  have j1 : (i : Int) + 1 ≤ (n : Int) := by omega
  have j2 : ((i : Int) + 1).toNat = i + 1 := by omega
  have HRm : Hid (yt.length + yd.length ≤ cap) := by rw [Hid, HLt.out, HLd.out]; omega
  have HBy : Hid ((yt.length + yd.length) * RSl.bytes ≤ 140737488355328) := by
    have : RSl.bytes = 120 := rfl
    rw [Hid, HLt.out, HLd.out, this]; omega
  clear h hg hm hs ht hn
  go_enter Tryz.func91, Tryz.ntmps91
  obtain ⟨pv, hpv⟩ : ∃ pv : Option Addr, (if cap = i + 1 then some (⟨g, 0, none⟩ : Addr) else some ⟨g, (i + 1) * 10, none⟩) = pv := ⟨_, rfl⟩
  have HS2 : Hid (RSl.App w.drew (.slice pv (n - (i + 1)) (cap - (i + 1))) yd) := by
    rw [← hpv]
    by_cases hcc : cap = i + 1
    · rw [if_pos hcc]
      exact HAp.out _ _ _ _ rfl (fun q => absurd q (by omega)) rfl
    · rw [if_neg hcc]
      exact HAp.out _ _ _ _ rfl (fun _ => rfl) rfl
  obtain ⟨n1, hn1⟩ : ∃ n1, n1 + 1 = n := ⟨n - 1, by omega⟩
  have HM : Hid (n1 = i + yd.length) := by rw [Hid, HLd.out]; omega
  have HN1 := Lib.hid hn1
  have k1 : (n1 : Int) ≤ (n : Int) := by omega
  have k2 : ¬ cap = n1 := by omega
  have k3 : n1 ≤ n := by omega
  have k4 : n1 ≤ cap := by omega
  have HCl : Hid (ye.length + (0 + 1) ≤ cap) := by rw [Hid, HLe.out]; omega
  have HOf : Hid (n1 * 10 = ye.length * RSl.k) := by rw [Hid, HLe.out]; show n1 * 10 = (n - 1) * 10; omega
  have HLl : Hid (n - n1 = 0 + 1) := by rw [Hid]; omega
  clear hn1 HAp HLd HLe hi hl
  go_upto_region 5 with (fail)
  go_region_law (refine RowKind.Own.roomR (R := RSl) (xs := yt) (ys := yd) (cap := cap) (g := g) (m := n1) (by decide) rfl _ _ rfl HLt.out.symm HM.out HFr.out.drew rfl rfl HS2.out HBy.out hB HRm.out ?_; intro w9 hO9 hG9)
  all_goals
    try simp only [List.getElem_toArray, List.getElem_cons_succ, List.getElem_cons_zero, Act.put, List.setIfInBounds_toArray, List.set_cons_zero, List.set_cons_succ]
    rw [HEq.out] at hO9
    have HO9 := Lib.hid hO9
    have HG9 : Hid (w.grownBy w9 (some g)) := grown_tr (grown_of (Below.refl _ _).drew (some g)) hG9
    clear hO9 hG9 HFr HS2
    go_wp2_with (refine RowKind.Own.clearB (R := RSl) (m := 0) HO9.out (fun _ => by kernel_rfl) (by decide) HCl.out HOf.out HLl.out rfl _ rfl rfl ?_; intro w10 hO10 hG10; have HO10 := Lib.hid hO10; have HG10 := Lib.hid (grown_tr HG9.out hG10); clear hO10 hG10)
    go_returns
    exact ⟨by rw [← HN1.out]; rfl, by have q := HO10.out; rw [← HN1.out]; exact q, HG10.out⟩
end Go.Proofs.YthhceggcdaljdaaGreat
/- slices.Insert of one slot into a row of the call's own -/
namespace Go.Proofs.YthhceggcdaljdaaGreat
open Go.RowKit
set_option linter.unusedVariables false
set_option linter.unusedSimpArgs false
set_option linter.unusedSectionVars false

set_option maxRecDepth 100000 in
set_option maxHeartbeats 16000000 in
/-- behind the last one -/
theorem sins_end (xs : List SW) (x : SW) (v : Value) (B bx : Nat) (w : World) (h : RSl.Own B w v xs) (hl : xs.length ≤ 900000) (hB : B ≤ w.heap.size) (hx : Boxed w bx (swRow x) 40) : Calls Tryz.prog 89 #[v, .int .i64 (xs.length : Int), .slice (some ⟨bx, 0, none⟩) 1 1] w (fun e w' => ∃ v', e = .returned v' ∧ RSl.Own B w' v' (xs ++ [x]) ∧ w.grownBy w' v.ownBlock) := by
  have HO := Lib.hid h
  have HA : Hid (RSl.App w (.slice (some ⟨bx, 0, none⟩) 1 1) [x]) := ⟨⟨bx, 0, none⟩, 1, rfl, fun j u hu => by
    rw [Addr.add_lit, Nat.zero_add, hx.cell j, ← hu]
    show (swRow x)[j]? = (RSl.cells [x])[j]?
    simp [swRow, RowKind.cells, RSl, SW.enc]⟩
  have HLe : Hid (xs.length + [x].length ≤ 1000000) := by rw [Hid, List.length_singleton]; omega
  have hcase : (v = .slice none 0 0 ∧ xs.length = 0) ∨ ∃ g cap, v = .slice (some ⟨g, 0, none⟩) xs.length cap ∧ xs.length ≤ cap := by
    obtain ⟨h1, ⟨e, h2⟩ | ⟨g, cap, cur, e, hBg, hg, hc, hm, hs, ht⟩⟩ := h
    · exact .inl ⟨e, h2⟩
    · exact .inr ⟨g, cap, e, hc⟩
  clear h
  rcases hcase with ⟨rfl, hn⟩ | ⟨g, cap, rfl, hc⟩
  · rw [hn] at *
    go_enter Tryz.func89, Tryz.ntmps89
    go_wp2_with (at_builtin; refine RowKind.Own.append (R := RSl) rfl _ _ rfl HO.out rfl [x] rfl HA.out HLe.out hB ?_; intro v9 w9 hO9 hG9; have HO9 := Lib.hid hO9; have HG9 := Lib.hid hG9; clear hO9 hG9)
    go_returns
    exact ⟨_, rfl, HO9.out, HG9.out⟩
  · generalize xs.length = n at HO hc ⊢
    have i1 : (n : Int) ≤ (cap : Int) := by omega
    have i2 : ((n : Int) == (n : Int)) = true := by simp
    go_enter Tryz.func89, Tryz.ntmps89
    go_wp2_with (at_builtin; refine RowKind.Own.append (R := RSl) rfl _ _ rfl HO.out rfl [x] rfl HA.out HLe.out hB ?_; intro v9 w9 hO9 hG9; have HO9 := Lib.hid hO9; have HG9 := Lib.hid hG9; clear hO9 hG9)
    all_goals
      go_returns
      exact ⟨_, rfl, HO9.out, HG9.out⟩
set_option maxRecDepth 100000 in
set_option maxHeartbeats 16000000 in
/-- between others, where there is no room -/
theorem sins_grow (xs : List SW) (x : SW) (g cap i B bx : Nat) (w : World) (h : RSl.Own B w (.slice (some ⟨g, 0, none⟩) xs.length cap) xs) (hi : i < xs.length) (hl : xs.length ≤ 900000) (hB : B ≤ w.heap.size) (hx : Boxed w bx (swRow x) 40) (hfull : cap < xs.length + 1) : Calls Tryz.prog 89 #[.slice (some ⟨g, 0, none⟩) xs.length cap, .int .i64 (i : Int), .slice (some ⟨bx, 0, none⟩) 1 1] w (fun e w' => ∃ v', e = .returned v' ∧ RSl.Own B w' v' (xs.take i ++ x :: xs.drop i) ∧ w.grownBy w' (some g)) := by
  obtain ⟨cur, hg, hn, hBg, hc, hm, hs, ht⟩ := h.row
  have hcap : cap = xs.length := by omega
  subst hcap
  obtain ⟨cp, cur2, w2, hrun, hg2, hs2, hc2, hm2, hf2, hb2, hz2⟩ := RowKind.run_growZ (R := RSl) (k := xs.length + 1 - i) (m := xs.length + 1) h (Nat.le_of_lt hi) (by omega) (by omega) (by omega) (by omega) 3 .i64 Tryz.underlying3 22
  have HFrom : Hid (∀ (W : World), W.heap[g]? = w.heap[g]? → ∀ j u, (RSl.cells (xs.drop i))[j]? = some u → W.cell? ⟨g, i * 10 + j, none⟩ = some u) := fun W hW => h.from (Nat.le_of_lt hi) hW
  have HGl : Hid (g < w.heap.size) := (Array.getElem?_eq_some_iff.1 hg).1
  have HXb := Lib.hid hx
  have HDl : Hid ((RSl.cells (xs.drop i)).length = (xs.length - i) * RSl.k) := by rw [Hid, RSl.cells_len, List.length_drop]
  have HFin : Hid (∀ (W : World) (g2 cp : Nat) (cu : Array Value), B ≤ g2 → W.heap[g2]? = some (.cells cu RSl.tE (0, 0)) → xs.length + 1 ≤ cp → cp ≤ maxLen → cu.size = cp * RSl.k → (∀ t, t < i * RSl.k → cu[t]? = (RSl.cells xs)[t]?) → (∀ t, t < RSl.k → cu[i * RSl.k + t]? = (RSl.enc x)[t]?) → (∀ t, t < (xs.length - i) * RSl.k → cu[i * RSl.k + RSl.k + t]? = (RSl.cells xs)[i * RSl.k + t]?) → RSl.Own B W (.slice (some ⟨g2, 0, none⟩) (xs.length + 1) cp) (xs.take i ++ x :: xs.drop i)) := fun W g2 cp cu q1 q2 q3 q4 q5 q6 q7 q8 => RowKind.Own.asm (Nat.le_of_lt hi) q1 q2 q3 q4 q5 q6 q7 q8
  have HCd : Hid (∀ t, (RSl.cells xs)[i * RSl.k + t]? = (RSl.cells (xs.drop i))[t]?) := fun t => by
    have e1 : RSl.cells xs = RSl.cells (xs.take i) ++ RSl.cells (xs.drop i) := by rw [← RSl.cells_append, List.take_append_drop]
    have l1 : (RSl.cells (xs.take i)).length = i * RSl.k := by rw [RSl.cells_len, List.length_take, Nat.min_eq_left (by omega)]
    rw [e1, List.getElem?_append_right (by omega), l1, Nat.add_sub_cancel_left]
  have hk4 : RSl.k = 10 := rfl
  have HEn : Hid ((RSl.enc x).length = 10) := RSl.len x
  have HEc : Hid (∀ (j : Nat) (u : Value), (RSl.enc x)[j]? = some u → (swRow x)[j]? = some u) := fun j u hu => by rw [← hu]; show (RSl.enc x).toArray[j]? = _; simp
  have HOn : Hid (∀ u ∈ RSl.enc x, u.oneCell' = true) := RSl.one x
  have HOd : Hid (∀ u ∈ RSl.cells (xs.drop i), u.oneCell' = true) := RowKind.one_cells
  simp only [hk4] at hs2 hf2 HFin HCd HDl
  generalize RSl.enc x = E at *
  generalize RSl.cells (xs.drop i) = D at *
  generalize hX : xs.take i ++ x :: xs.drop i = X at *
  generalize RSl.cells xs = C at *
  have HRn := Lib.hid hrun
  clear h hX hg hm hs ht hc hx hfull hk4 hn hrun
  generalize xs.length = n at *
  generalize hN : n + 1 = N at *
  generalize hG2 : w.heap.size = g2 at *
  have HCp1 : Hid ((Builtin.copy_ #[RSl.tS, RSl.tS] 3 #[.slice (some ⟨g2, i * 10, none⟩) (N - i) (cp - i), .slice (some ⟨bx, 0, none⟩) 1 1]).run Tryz.prog w2 = .ok (goInt 1) (setRow w2 g2 (putFrom cur2 (i * 10) E))) := RowKind.run_copyK RSl (m := 1) (sLen := 1) (dLen := N - i) _ (by show 1 = min 1 (N - i); omega) (by rw [HEn.out]; rfl) (fun j u hu => by
    rw [Addr.add_lit, Nat.zero_add, (hb2.cell (p := ⟨bx, j, none⟩) (by show bx < g2; have := HXb.out.lt; omega)).trans (HXb.out.cell j)]
    exact HEc.out j u hu) (by unfold rowOf; rw [hg2]; simp) (by rw [HEn.out, hs2]; omega) HOn.out
  have hg3 : (setRow w2 g2 (putFrom cur2 (i * 10) E)).heap[g2]? = some (.cells (putFrom cur2 (i * 10) E) RSl.tE (0, 0)) := RowKind.heap_set hg2
  have HB3 : Hid (Below g2 w (setRow w2 g2 (putFrom cur2 (i * 10) E))) := ⟨hb2.os, hb2.tape, hb2.output, by rw [size_setRow]; exact hb2.size, fun k hk => (heap_setRow w2 g2 _ k (by omega)).trans (hb2.block k hk)⟩
  generalize hw3 : setRow w2 g2 (putFrom cur2 (i * 10) E) = w3 at *
  have hs3 : (putFrom cur2 (i * 10) E).size = cp * 10 := by rw [size_putFrom, hs2]
  have hz3 : g2 < w3.heap.size := by rw [← hw3, size_setRow]; exact hz2
  have HCp2 : Hid (∀ W, Below w3.heap.size w3 W → ∃ w4, (Builtin.copy_ #[RSl.tS, RSl.tS] 3 #[.slice (some ⟨g2, (i + 1) * 10, none⟩) (N - (i + 1)) (cp - (i + 1)), .slice (some ⟨g, i * 10, none⟩) (n - i) (n - i)]).run Tryz.prog W = .ok (goInt ((n - i : Nat) : Int)) w4 ∧ RSl.Own B w4 (.slice (some ⟨g2, 0, none⟩) N cp) X ∧ w.grownBy w4 (some g)) := fun W hW => by
    have hgW : W.heap[g2]? = some (.cells (putFrom cur2 (i * 10) E) RSl.tE (0, 0)) := (hW.block g2 hz3).trans hg3
    have HBW : Below g2 w W := ⟨hW.os.trans HB3.out.os, hW.tape.trans HB3.out.tape, hW.output.trans HB3.out.output, Nat.le_trans HB3.out.size hW.size, fun k hk => (hW.block k (by omega)).trans (HB3.out.block k hk)⟩
    refine ⟨setRow W g2 (putFrom (putFrom cur2 (i * 10) E) ((i + 1) * 10) D), RowKind.run_copyK RSl (m := n - i) (sLen := n - i) (dLen := N - (i + 1)) (cur := putFrom cur2 (i * 10) E) _ (by show n - i = min (n - i) (N - (i + 1)); omega) HDl.out (fun j u hu => by
      rw [Addr.add_lit]
      exact HFrom.out W (HBW.block g HGl.out) j u hu) (by unfold rowOf; rw [hgW]; simp) (by rw [HDl.out, hs3]; show (i + 1) * 10 + (n - i) * 10 ≤ _; omega) HOd.out, ?_, ?_⟩
    · exact HFin.out _ g2 cp _ hB (RowKind.heap_set hgW) hc2 hm2 (by rw [size_putFrom, hs3]) (fun t ht => by
        rw [get_putFrom _ _ _ _ (by rw [HDl.out, hs3]; omega), if_neg (by omega), get_putFrom _ _ _ _ (by rw [HEn.out, hs2]; omega), if_neg (by omega)]
        exact hf2 t ht) (fun t ht => by
        rw [get_putFrom _ _ _ _ (by rw [HDl.out, hs3]; omega), if_neg (by omega), get_putFrom _ _ _ _ (by rw [HEn.out, hs2]; omega), if_pos (by rw [HEn.out]; omega)]
        congr 1
        omega) (fun t ht => by
        rw [get_putFrom _ _ _ _ (by rw [HDl.out, hs3]; omega), if_pos (by rw [HDl.out]; omega), HCd.out]
        congr 1
        omega)
    · exact ⟨HBW.os, HBW.tape, HBW.output, by rw [size_setRow]; exact HBW.size, fun k hk _ => (heap_setRow W g2 _ k (by omega)).trans (HBW.block k (by omega))⟩
  have i1 : (i : Int) ≤ (n : Int) := by omega
  have i2 : ((i : Int) == (n : Int)) = false := by simp; omega
  have i3 : i ≤ n := by omega
  have i4 : (n : Int) < (n : Int) + 1 := by omega
  have i5 : ¬ n = i := by omega
  have i6 : 0 ≤ (n : Int) + 1 - (i : Int) := by omega
  have hki : (n : Int) + 1 - (i : Int) = ((N - i : Nat) : Int) := by omega
  have j1 : (i : Int) ≤ (N : Int) := by omega
  have j2 : ¬ cp = i := by omega
  have j3 : i ≤ N := by omega
  have j4 : (i : Int) + 1 ≤ (N : Int) := by omega
  have j5 : ¬ cp = i + 1 := by omega
  have j6 : i + 1 ≤ N := by omega
  have j7 : 0 ≤ (i : Int) + 1 := by omega
  have j8 : ((i : Int) + 1).toNat = i + 1 := by omega
  have j9 : N ≤ cp := hc2
  have hwr : IntKind.i64.wrap ((i : Int) + 1) = (i : Int) + 1 := by rw [IntKind.wrap_i64]; omega
  have j10 : ¬ n = i := by omega
  have hn9 : n ≤ 900000 := hl
  clear hw3 hz3 hg3 hs3 hg2 hs2 hf2 hb2 hz2 HFin HFrom HCd HXb HGl HEn HEc HOn HOd HDl hm2 hc2 hN HB3 hl
  go_enter Tryz.func89, Tryz.ntmps89
  go_upto_region 9 with (fail)
  go_wp2_with (first | (refine wpList_copyK rfl _ _ _ rfl rfl rfl HCp1.out ?_) | (at_builtin; refine Lib.wpList_append_run _ rfl _ _ _ _ rfl _ _ rfl rfl _ _ HRn.out ?_))
  refine wp_region_last (pre := ?pre) (tl := ?tl) 8 ?hp ?ht (by kernel_rfl) ?hB ?hT ?htl ?h
  case hp => simp only [List.take_succ_cons, List.take_zero]; exact rfl
  case ht => simp only [List.drop_succ_cons, List.drop_zero]; exact rfl
  case hB => kernel_rfl
  case hT => kernel_rfl
  case htl => exact List.cons_ne_nil _ _
  case h =>
    repeat (first | go_big_quiet_step (fail) | quiet_step (fail))
    refine wpQuiet_nil ?_
    intro _ hw'
    obtain ⟨q, hw''⟩ := hw'
    subst hw''
    obtain ⟨w4, hr4, hO4, hG4⟩ := HCp2.out q.w q.h
    have HR4 := Lib.hid hr4
    have HO := Lib.hid hO4
    have HB4 := Lib.hid hG4
    clear hr4 hO4 hG4 HCp2
    generalize q.w = wq at *
    clear q
    go_wp2_with (refine wpList_copyK rfl _ _ _ rfl rfl rfl HR4.out ?_)
    go_returns
    exact ⟨_, rfl, HO.out, HB4.out⟩
set_option maxRecDepth 100000 in
set_option maxHeartbeats 16000000 in
/-- between others, where there is room -/
theorem sins_room (xs : List SW) (x : SW) (g cap i B bx : Nat) (w : World) (h : RSl.Own B w (.slice (some ⟨g, 0, none⟩) xs.length cap) xs) (hi : i < xs.length) (hl : xs.length ≤ 900000) (hB : B ≤ w.heap.size) (hx : Boxed w bx (swRow x) 40) (hne : bx ≠ g) (hroom : xs.length + 1 ≤ cap) : Calls Tryz.prog 89 #[.slice (some ⟨g, 0, none⟩) xs.length cap, .int .i64 (i : Int), .slice (some ⟨bx, 0, none⟩) 1 1] w (fun e w' => ∃ v', e = .returned v' ∧ RSl.Own B w' v' (xs.take i ++ x :: xs.drop i) ∧ w.grownBy w' (some g)) := by
  obtain ⟨cur, hg, hn, hBg, hc, hm, hs, ht⟩ := h.row
  have HFrom : Hid (∀ (W : World), W.heap[g]? = w.heap[g]? → ∀ j u, (RSl.cells (xs.drop i))[j]? = some u → W.cell? ⟨g, i * 10 + j, none⟩ = some u) := fun W hW => h.from (Nat.le_of_lt hi) hW
  have HGl : Hid (g < w.heap.size) := (Array.getElem?_eq_some_iff.1 hg).1
  have HXb := Lib.hid hx
  have HDl : Hid ((RSl.cells (xs.drop i)).length = (xs.length - i) * RSl.k) := by rw [Hid, RSl.cells_len, List.length_drop]
  have HFin : Hid (∀ (W : World) (g2 cp : Nat) (cu : Array Value), B ≤ g2 → W.heap[g2]? = some (.cells cu RSl.tE (0, 0)) → xs.length + 1 ≤ cp → cp ≤ maxLen → cu.size = cp * RSl.k → (∀ t, t < i * RSl.k → cu[t]? = (RSl.cells xs)[t]?) → (∀ t, t < RSl.k → cu[i * RSl.k + t]? = (RSl.enc x)[t]?) → (∀ t, t < (xs.length - i) * RSl.k → cu[i * RSl.k + RSl.k + t]? = (RSl.cells xs)[i * RSl.k + t]?) → RSl.Own B W (.slice (some ⟨g2, 0, none⟩) (xs.length + 1) cp) (xs.take i ++ x :: xs.drop i)) := fun W g2 cp cu q1 q2 q3 q4 q5 q6 q7 q8 => RowKind.Own.asm (Nat.le_of_lt hi) q1 q2 q3 q4 q5 q6 q7 q8
  have HCd : Hid (∀ t, (RSl.cells xs)[i * RSl.k + t]? = (RSl.cells (xs.drop i))[t]?) := fun t => by
    have e1 : RSl.cells xs = RSl.cells (xs.take i) ++ RSl.cells (xs.drop i) := by rw [← RSl.cells_append, List.take_append_drop]
    have l1 : (RSl.cells (xs.take i)).length = i * RSl.k := by rw [RSl.cells_len, List.length_take, Nat.min_eq_left (by omega)]
    rw [e1, List.getElem?_append_right (by omega), l1, Nat.add_sub_cancel_left]
  have hf2 : ∀ t, t < i * RSl.k → cur[t]? = (RSl.cells xs)[t]? := fun t q => by
    have hle : i * RSl.k ≤ xs.length * RSl.k := Nat.mul_le_mul_right _ (by omega)
    rw [← ht, List.getElem?_take, if_pos (by omega), Array.getElem?_toList]
  have hk4 : RSl.k = 10 := rfl
  have HEn : Hid ((RSl.enc x).length = 10) := RSl.len x
  have HEc : Hid (∀ (j : Nat) (u : Value), (RSl.enc x)[j]? = some u → (swRow x)[j]? = some u) := fun j u hu => by rw [← hu]; show (RSl.enc x).toArray[j]? = _; simp
  have HOn : Hid (∀ u ∈ RSl.enc x, u.oneCell' = true) := RSl.one x
  have HOd : Hid (∀ u ∈ RSl.cells (xs.drop i), u.oneCell' = true) := RowKind.one_cells
  simp only [hk4] at hs hf2 HFin HCd HDl
  generalize RSl.enc x = E at *
  generalize RSl.cells (xs.drop i) = D at *
  generalize hX : xs.take i ++ x :: xs.drop i = X at *
  generalize RSl.cells xs = C at *
  have hov : ∀ lb cb, (callFunc 131 #[.slice (some ⟨bx, 0, none⟩) 1 1, .slice (some ⟨g, (i + 1) * 10, none⟩) lb cb]).run Tryz.prog w = .ok (.value (.bool false)) w := fun lb cb => by
    rw [run_callFunc_extern Tryz.func131 (by kernel_rfl) (by kernel_rfl) (by kernel_rfl) (e := Extern.SlicesOverlaps.overlaps #[22, 22] #[4]) (by kernel_rfl),
      Lib.run_overlaps_apart w 22 4 40 Tryz.underlying22 10 (fun _ => by kernel_rfl) ⟨bx, 0, none⟩ ⟨g, (i + 1) * 10, none⟩ 1 1 lb cb hne 40 40 10 (cap * 10) (shape_boxed hx) (by unfold World.shape?; rw [hg]; simp only [hs]; rfl) (by omega) (hx.frozen 0) (hx.frozen 10)]
    rfl
  clear h hX ht hx hk4 hn
  generalize xs.length = n at *
  generalize hN : n + 1 = N at *
  have HCpA : Hid (∀ W, Below w.heap.size w W → (Builtin.copy_ #[RSl.tS, RSl.tS] 3 #[.slice (some ⟨g, (i + 1) * 10, none⟩) (N - (i + 1)) (cap - (i + 1)), .slice (some ⟨g, i * 10, none⟩) (N - i) (cap - i)]).run Tryz.prog W = .ok (goInt ((n - i : Nat) : Int)) (setRow W g (putFrom cur ((i + 1) * 10) D))) := fun W hW =>
    RowKind.run_copyK RSl (m := n - i) (sLen := N - i) (dLen := N - (i + 1)) (cur := cur) _ (by show n - i = min (N - i) (N - (i + 1)); omega) HDl.out (fun j u hu => by
      rw [Addr.add_lit]
      exact HFrom.out W (hW.block g HGl.out) j u hu) (by unfold rowOf; rw [hW.block g HGl.out, hg]; simp) (by rw [HDl.out, hs]; show (i + 1) * 10 + (n - i) * 10 ≤ _; omega) HOd.out
  have hs3 : (putFrom cur ((i + 1) * 10) D).size = cap * 10 := by rw [size_putFrom, hs]
  have HCpB : Hid (∀ W, Below w.heap.size w W → ∃ w4, (Builtin.copy_ #[RSl.tS, RSl.tS] 3 #[.slice (some ⟨g, i * 10, none⟩) (N - i) (cap - i), .slice (some ⟨bx, 0, none⟩) 1 1]).run Tryz.prog (setRow W g (putFrom cur ((i + 1) * 10) D)) = .ok (goInt 1) w4 ∧ RSl.Own B w4 (.slice (some ⟨g, 0, none⟩) N cap) X ∧ w.grownBy w4 (some g)) := fun W hW => by
    have hgW : (setRow W g (putFrom cur ((i + 1) * 10) D)).heap[g]? = some (.cells (putFrom cur ((i + 1) * 10) D) RSl.tE (0, 0)) := RowKind.heap_set ((hW.block g HGl.out).trans hg)
    have HGW : w.grownBy (setRow W g (putFrom cur ((i + 1) * 10) D)) (some g) := grown_tr (grown_of hW _) (grown_setRow _ _ _)
    generalize setRow W g (putFrom cur ((i + 1) * 10) D) = W1 at *
    refine ⟨setRow W1 g (putFrom (putFrom cur ((i + 1) * 10) D) (i * 10) E), RowKind.run_copyK RSl (m := 1) (sLen := 1) (dLen := N - i) (cur := putFrom cur ((i + 1) * 10) D) _ (by show 1 = min 1 (N - i); omega) (by rw [HEn.out]; rfl) (fun j u hu => by
      rw [Addr.add_lit, Nat.zero_add, World.cell?_of_block (a := ⟨bx, j, none⟩) (HGW.block bx HXb.out.lt (fun e => hne (Option.some.inj e))), HXb.out.cell j]
      exact HEc.out j u hu) (by unfold rowOf; rw [hgW]; simp) (by rw [HEn.out, hs3]; omega) HOn.out, ?_, grown_tr HGW (grown_setRow _ _ _)⟩
    exact HFin.out _ g cap _ hBg (RowKind.heap_set hgW) hroom hm (by rw [size_putFrom, hs3]) (fun t ht => by
        rw [get_putFrom _ _ _ _ (by rw [HEn.out, hs3]; omega), if_neg (by omega), get_putFrom _ _ _ _ (by rw [HDl.out, hs]; omega), if_neg (by omega)]
        exact hf2 t ht) (fun t ht => by
        rw [get_putFrom _ _ _ _ (by rw [HEn.out, hs3]; omega), if_pos (by rw [HEn.out]; omega)]
        congr 1
        omega) (fun t ht => by
        rw [get_putFrom _ _ _ _ (by rw [HEn.out, hs3]; omega), if_neg (by rw [HEn.out]; omega), get_putFrom _ _ _ _ (by rw [HDl.out, hs]; omega), if_pos (by rw [HDl.out]; omega), HCd.out]
        congr 1
        omega)
  have i1 : (i : Int) ≤ (n : Int) := by omega
  have i2 : ((i : Int) == (n : Int)) = false := by simp; omega
  have i3 : i ≤ n := by omega
  have i4 : ¬ (cap : Int) < (n : Int) + 1 := by omega
  have i5 : ¬ cap = i := by omega
  have i6 : (n : Int) + 1 ≤ (cap : Int) := by omega
  have hnN : (n : Int) + 1 = (N : Int) := by omega
  have j1 : (i : Int) ≤ (N : Int) := by omega
  have j3 : i ≤ N := by omega
  have j4 : (i : Int) + 1 ≤ (N : Int) := by omega
  have j5 : ¬ cap = i + 1 := by omega
  have j6 : i + 1 ≤ N := by omega
  have j7 : 0 ≤ (i : Int) + 1 := by omega
  have j8 : ((i : Int) + 1).toNat = i + 1 := by omega
  have j9 : N ≤ cap := by omega
  have j10 : (N : Int) ≤ (cap : Int) := by omega
  have j11 : ¬ (cap : Int) < (N : Int) := by omega
  have hwr : IntKind.i64.wrap ((i : Int) + 1) = (i : Int) + 1 := by rw [IntKind.wrap_i64]; omega
  have hn9 : n ≤ 900000 := hl
  have i7 : n ≤ cap := by omega
  have i8 : (n : Int) ≤ (cap : Int) := by omega
  clear hs3 hg hs hf2 HFin HFrom HCd HXb HGl HEn HEc HOn HOd HDl hm hc hN hl hroom
  go_enter Tryz.func89, Tryz.ntmps89
  go_upto_region 15 with (fail)
  clear hov
  refine wp_region_last (pre := ?pre) (tl := ?tl) 8 ?hp ?ht (by kernel_rfl) ?hB ?hT ?htl ?h
  case hp => simp only [List.take_succ_cons, List.take_zero]; exact rfl
  case ht => simp only [List.drop_succ_cons, List.drop_zero]; exact rfl
  case hB => kernel_rfl
  case hT => kernel_rfl
  case htl => exact List.cons_ne_nil _ _
  case h =>
    repeat (first | go_big_quiet_step (fail) | quiet_step (fail))
    refine wpQuiet_nil ?_
    intro _ hw'
    obtain ⟨q, hw''⟩ := hw'
    subst hw''
    obtain ⟨w4, hr4, hO4, hG4⟩ := HCpB.out q.w q.h
    have HR3 := Lib.hid (HCpA.out q.w q.h)
    have HR4 := Lib.hid hr4
    have HO := Lib.hid hO4
    have HB4 := Lib.hid hG4
    clear hr4 hO4 hG4 HCpA HCpB
    generalize q.w = wq at *
    clear q
    generalize setRow wq g (putFrom cur ((i + 1) * 10) D) = wr at *
    go_wp2_with (first | (refine wpList_copyK rfl _ _ _ rfl rfl rfl HR4.out ?_) | (refine wpList_copyK rfl _ _ _ rfl rfl rfl HR3.out ?_))
    go_returns
    exact ⟨_, rfl, HO.out, HB4.out⟩
/-- one put at its place -/
theorem sins_any (xs : List SW) (x : SW) (v : Value) (i B bx : Nat) (w : World) (h : RSl.Own B w v xs) (hi : i ≤ xs.length) (hl : xs.length ≤ 900000) (hB : B ≤ w.heap.size) (hx : Boxed w bx (swRow x) 40) (hne : v.ownBlock ≠ some bx) : Calls Tryz.prog 89 #[v, .int .i64 (i : Int), .slice (some ⟨bx, 0, none⟩) 1 1] w (fun e w' => ∃ v', e = .returned v' ∧ RSl.Own B w' v' (xs.take i ++ x :: xs.drop i) ∧ w.grownBy w' v.ownBlock) := by
  by_cases e : i = xs.length
  · subst e
    rw [List.take_length, List.drop_length]
    exact sins_end xs x v B bx w h hl hB hx
  · have hlt : i < xs.length := by omega
    have h' := h
    obtain ⟨h1, ⟨_, h2⟩ | ⟨g, cap, cur, rfl, hBg, hg, hc, hm, hs, ht⟩⟩ := h
    · omega
    · have hbg : bx ≠ g := fun q => hne (by rw [q]; rfl)
      by_cases hr : xs.length + 1 ≤ cap
      · exact sins_room xs x g cap i B bx w h' hlt hl hB hx hbg hr
      · exact sins_grow xs x g cap i B bx w h' hlt hl hB hx (by omega)
end Go.Proofs.YthhceggcdaljdaaGreat
