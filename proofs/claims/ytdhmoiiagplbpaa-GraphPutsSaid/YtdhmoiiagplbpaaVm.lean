/- the document's walk along bytes: num, sign -/
import Derived.Test.YtdhmoiiagplbpaaVl
import Derived.Test.YtdhmoiiagplbpaaWg
import Derived.Test.YtdhmoiiagplbpaaBoxG
namespace Go.Proofs.Ytdhmoiiagplbpaa
open Go.RowKit
set_option linter.unusedVariables false
set_option linter.unusedSimpArgs false

/-- only this block has changed -/
structure Nb (bw : Nat) (w w' : World) : Prop where
  os : w'.os = w.os
  tape : w'.tape = w.tape
  output : w'.output = w.output
  size : w'.heap.size = w.heap.size
  block : ∀ k, k ≠ bw → w'.heap[k]? = w.heap[k]?
theorem Nb.drewN {bw : Nat} (w : World) (n : Nat) : Nb bw w (w.drewN n) := ⟨rfl, rfl, rfl, rfl, fun _ _ => rfl⟩
theorem Nb.set {bw : Nat} {w w' : World} (h : Nb bw w w') (i : Nat) (u : Value) : Nb bw w (w'.setCell ⟨bw, i, none⟩ u) :=
  ⟨h.os, h.tape, h.output, by rw [← h.size]; simp [World.setCell], fun k hk => (Below.heap_setCell w' ⟨bw, i, none⟩ u k hk).trans (h.block k hk)⟩
theorem Nb.below {bw B : Nat} {a w w' : World} (h : Nb bw w w') (ha : Below B a w) (hB : B ≤ bw) : Below B a w' :=
  ha.trans ⟨h.os, h.tape, h.output, by rw [h.size]; exact Nat.le_refl _, fun k hk => h.block k (by omega)⟩
theorem Nb.row {bw n : Nat} {w w' : World} {c : Array Value} (h : Nb bw w w') (hr : rowOf w n = some c) (hne : n ≠ bw) : rowOf w' n = some c := (rowOf_block (h.block n hne)).trans hr
/-- the walk's box -/
def WB (w : World) (bw : Nat) (bv : Value) (at' e : Nat) : Prop := w.heap[bw]? = some (.cells #[bv, .int .i64 (at' : Int), .int .i64 (e : Int)] 72 (0, 0))
theorem WB.row {w : World} {bw : Nat} {bv : Value} {at' e : Nat} (h : WB w bw bv at' e) : rowOf w bw = some #[bv, .int .i64 (at' : Int), .int .i64 (e : Int)] := by
  unfold rowOf
  rw [h]
  rfl
theorem WB.set1 {w : World} {bw : Nat} {bv : Value} {at' e : Nat} (h : WB w bw bv at' e) (n : Nat) : WB (w.setCell ⟨bw, 1, none⟩ (.int .i64 (n : Int))) bw bv n e := by
  unfold WB World.setCell at *
  simp only [Array.getElem?_modify, if_true, h]
  rfl
theorem WB.set2 {w : World} {bw : Nat} {bv : Value} {at' e : Nat} (h : WB w bw bv at' e) (n : Nat) : WB (w.setCell ⟨bw, 2, none⟩ (.int .i64 (n : Int))) bw bv at' n := by
  unfold WB World.setCell at *
  simp only [Array.getElem?_modify, if_true, h]
  rfl
theorem dropIs {w : World} {p : Option Addr} {n c : Nat} {xs : List Int} (h : RB.Is w (.slice p n c) xs) (hc : n ≤ c) (k : Nat) (hk : k ≤ n) (hz : c = 0 → p = none ∨ k = 0) :
    RB.Is w (.slice (if c = k then p else Option.map (fun x => x.add k) p) (n - k) (c - k)) (xs.drop k) := by
  rcases h with ⟨rfl, p', c', e, hp⟩ | ⟨hne, b, off, d, e, hb, hr⟩
  · simp only [Value.slice.injEq] at e
    obtain ⟨rfl, rfl, rfl⟩ := e
    obtain rfl : k = 0 := by omega
    refine .inl ⟨by simp, _, _, rfl, fun q => ?_⟩
    split at q
    · have := hp q; omega
    · cases p with
      | none => have := hp rfl; omega
      | some a => simp at q
  · simp only [Value.slice.injEq] at e
    obtain ⟨rfl, e2, rfl⟩ := e
    subst e2
    by_cases hl : k = xs.length
    · subst hl
      refine .inl ⟨by rw [List.drop_length], _, _, by rw [Nat.sub_self], fun q => ?_⟩
      split at q
      · cases q
      · simp at q
    · rw [if_neg (by omega)]
      refine .inr ⟨fun q => hl (by have := congrArg List.length q; rw [List.length_drop] at this; simp at this; omega), b, off + k, c - k, by rw [List.length_drop]; simp [Addr.add_lit], hb, fun j hj i u hu => ?_⟩
      rw [List.length_drop] at hj
      have hg : (xs.drop k)[j]! = xs[k + j]! := by
        rw [getElem!_pos _ j (by rw [List.length_drop]; omega), getElem!_pos xs (k + j) (by omega), List.getElem_drop]
      rw [hg] at hu
      have := hr (k + j) (by omega) i u hu
      have e1 : off + (k + j) * RB.k + i = off + k + j * RB.k + i := by show off + (k + j) * 1 + i = off + k + j * 1 + i; omega
      rw [e1] at this
      exact this
/-- what num answers -/
def NumR (xs : List Int) (res : Except Nat GV) (bw : Nat) (bv : Value) (least most : Nat) (f : Nat → CG) (w : World) (e' : Ending) (w' : World) : Prop :=
  ∃ n at2 e2 : Nat, e' = .returned (.int .i64 (n : Int)) ∧ n ≤ most ∧ (e2 = 0 → least ≤ n) ∧ e2 ≤ 100 ∧ Nb bw w w' ∧ WB w' bw bv at2 e2 ∧ Gd xs res at2 e2 (f n)
theorem readU_e {xs : List Int} (hx : okB xs) : (readU xs).2.2 ≤ 4 := by
  rcases read_cases hx with ⟨y, s, hr, _⟩ | hr | hr <;> rw [hr] <;> simp
set_option maxRecDepth 100000 in
set_option maxHeartbeats 8000000 in
theorem wnum_any {xs : List Int} {res : Except Nat GV} {bw at' e least most bad c : Nat} {p : Option Addr} {f : Nat → CG} {w : World} (hbox : WB w bw (.slice p xs.length c) at' e) (hI : RB.Is w (.slice p xs.length c) xs) (hc : xs.length ≤ c) (hx : okB xs) (hl : xs.length ≤ 9000) (hm : most < 9223372036854775808) (hle : least ≤ most) (hb : bad ≠ 0) (hb2 : bad ≤ 100) (he : e ≤ 100) (hG : Gd xs res at' e (fun r => andR (numR least most bad r) f)) :
    Calls Try.prog 36 #[.pointer (some ⟨bw, 0, none⟩), .int .u64 (least : Int), .int .u64 (most : Int), .int .i64 (bad : Int)] w (NumR xs res bw (.slice p xs.length c) least most f w) := by
  have H := Lib.hid hbox
  have c2 : w.cell? ⟨bw, 2, none⟩ = some (.int .i64 (e : Int)) := rowOf_cell hbox.row 2
  by_cases he0 : e = 0
  · subst he0
    have hcase := hG.num hx hb
    have hle0 := hG.1
    have hD : RB.Is w (.slice (if c = at' then p else Option.map (fun x => x.add at') p) (xs.length - at') (c - at')) (xs.drop at') := dropIs hI hc at' hle0 (fun q => .inr (by omega))
    have hrl := read_lt (okB_drop hx at')
    have hre := readU_e (okB_drop hx at')
    have HR := Lib.hid (fun m => rreadU_any (xs.drop at') _ (w.drewN m) (by rw [List.length_drop]; omega) (okB_drop hx at') (show RB.Is (w.drewN m) _ _ from hD))
    generalize readU (xs.drop at') = rr at *
    obtain ⟨y, s, er⟩ := rr
    simp only at hcase hrl hre
    have c0 := fun m => show (w.drewN m).cell? ⟨bw, 0, none⟩ = some (.slice p xs.length c) from rowOf_cell hbox.row 0
    have c1 := fun m => show (w.drewN m).cell? ⟨bw, 1, none⟩ = some (.int .i64 (at' : Int)) from rowOf_cell hbox.row 1
    have d1 := fun m => show (w.drewN m).frozen? ⟨bw, 1, none⟩ = false from rowOf_frozen hbox.row 1
    have d2 := fun m => show (w.drewN m).frozen? ⟨bw, 2, none⟩ = false from rowOf_frozen hbox.row 2
    have c2m := fun m => show (w.drewN m).cell? ⟨bw, 2, none⟩ = some (.int .i64 ((0 : Nat) : Int)) from rowOf_cell hbox.row 2
    have hG0 := Lib.hid hG
    clear hD hbox hI hG
    generalize hn : xs.length = n at *
    have HN := Lib.hid hn
    clear hn
    go_enter Try.func36, Try.ntmps36
    go_wp2_with fail
    go_quiet ((go_at_call 51; exact Calls.quiet_of_same (HR.out _)))
    have k1 := c1 nq
    have k2 := c2m nq
    have j1 := d1 nq
    have j2 := d2 nq
    have HW : Hid (WB (w.drewN nq) bw (.slice p n c) at' 0) := H.out
    have HN0 := Lib.hid (Nb.drewN (bw := bw) w nq)
    clear c0 c1 d1 d2 c2m HR H c2
    generalize w.drewN nq = wq at *
    generalize (if c = at' then p else Option.map (fun x => x.add at') p) = pq at *
    rcases hcase with ⟨he0, hs, hin | ⟨hout, hres⟩⟩ | ⟨hne, hres⟩
    · subst he0
      obtain ⟨y0, y1, hG2⟩ := hin
      have HG2 := Lib.hid hG2
      have a1 : ¬ (y : Int) < (least : Int) := by omega
      have a2 : ¬ (y : Int) > (most : Int) := by omega
      have a3 : IntKind.i64.wrap (y : Int) = (y : Int) := by rw [IntKind.wrap_i64]; omega
      have HF := Lib.hid (HW.out.set1 (at' + s))
      have hcast : ((at' + s : Nat) : Int) = (at' : Int) + (s : Int) := by omega
      rw [hcast] at HF
      have HNf := Lib.hid (HN0.out.set 1 (.int .i64 ((at' : Int) + (s : Int))))
      clear hG2 HW HN0 hG0 hrl
      go_wp2
      go_returns
      exact ⟨y, at' + s, 0, rfl, y1, fun _ => y0, by omega, HNf.out, HF.out, HG2.out⟩
    · subst he0
      have HG2 : Hid (Gd xs res (at' + s) bad (f 0)) := ⟨by rw [HN.out]; exact hs, .inr ⟨hb, hres⟩⟩
      have HF := Lib.hid ((HW.out.set1 (at' + s)).set2 bad)
      have hcast : ((at' + s : Nat) : Int) = (at' : Int) + (s : Int) := by omega
      rw [hcast] at HF
      have HNf := Lib.hid ((HN0.out.set 1 (.int .i64 ((at' : Int) + (s : Int)))).set 2 (.int .i64 (bad : Int)))
      clear HW HN0 hG0 hrl hres
      by_cases hy : y < least
      · have a1 : (y : Int) < (least : Int) := by omega
        clear hout
        go_wp2
        go_returns
        exact ⟨0, at' + s, bad, rfl, Nat.zero_le _, fun q => absurd q hb, hb2, HNf.out, HF.out, HG2.out⟩
      · have a1 : ¬ (y : Int) < (least : Int) := by omega
        have a2 : (y : Int) > (most : Int) := by omega
        clear hout
        go_wp2
        go_returns
        exact ⟨0, at' + s, bad, rfl, Nat.zero_le _, fun q => absurd q hb, hb2, HNf.out, HF.out, HG2.out⟩
    · have HG2 : Hid (Gd xs res at' er (f 0)) := ⟨by rw [HN.out]; exact hle0, .inr ⟨hne, hres⟩⟩
      have hnb : ((er : Int) != 0) = true := by simp; omega
      have HF := Lib.hid (HW.out.set2 er)
      have HNf := Lib.hid (HN0.out.set 2 (.int .i64 (er : Int)))
      have HE := Lib.hid hne
      clear HW HN0 hG0 hrl hres hne
      go_wp2
      go_returns
      exact ⟨0, at', er, rfl, Nat.zero_le _, fun q => absurd q HE.out, by omega, HNf.out, HF.out, HG2.out⟩
  · have hne : ((e : Int) != 0) = true := by simp; omega
    have HG := Lib.hid (hG.bad he0 (f 0))
    clear hbox hI hG he0
    go_enter Try.func36, Try.ntmps36
    go_wp2
    go_returns
    exact ⟨0, at', e, rfl, Nat.zero_le _, fun q => by subst q; simp at hne, he, Nb.drewN w 0, H.out, HG.out⟩
/-- what sign answers -/
def SgnR (xs : List Int) (res : Except Nat GV) (bw : Nat) (bv : Value) (f : Int → CG) (w : World) (e' : Ending) (w' : World) : Prop :=
  ∃ (s : Int) (at2 e2 : Nat), e' = .returned (.int .i64 s) ∧ inR s ∧ e2 ≤ 100 ∧ Nb bw w w' ∧ WB w' bw bv at2 e2 ∧ Gd xs res at2 e2 (f s)
set_option maxRecDepth 100000 in
set_option maxHeartbeats 8000000 in
theorem wsgn_any {xs : List Int} {res : Except Nat GV} {bw at' e c : Nat} {p : Option Addr} {f : Int → CG} {w : World} (hbox : WB w bw (.slice p xs.length c) at' e) (hI : RB.Is w (.slice p xs.length c) xs) (hc : xs.length ≤ c) (hx : okB xs) (hl : xs.length ≤ 9000) (he : e ≤ 100) (hG : Gd xs res at' e (fun r => andR (sgnR r) f)) :
    Calls Try.prog 37 #[.pointer (some ⟨bw, 0, none⟩)] w (SgnR xs res bw (.slice p xs.length c) f w) := by
  have H := Lib.hid hbox
  have c2 : w.cell? ⟨bw, 2, none⟩ = some (.int .i64 (e : Int)) := rowOf_cell hbox.row 2
  by_cases he0 : e = 0
  · subst he0
    have hcase := hG.sgn hx
    have hle0 := hG.1
    have hD : RB.Is w (.slice (if c = at' then p else Option.map (fun x => x.add at') p) (xs.length - at') (c - at')) (xs.drop at') := dropIs hI hc at' hle0 (fun q => .inr (by omega))
    have hrl := read_lt (okB_drop hx at')
    have hre := readU_e (okB_drop hx at')
    have hsm : (readU (xs.drop at')).2.2 ≠ 0 → (readU (xs.drop at')).2.1 = 0 := fun q => by
      rcases read_cases (okB_drop hx at') with ⟨y, s, hr, _⟩ | hr | hr
      · rw [hr] at q; exact absurd rfl q
      · rw [hr]
      · rw [hr]
    have HR := Lib.hid (fun m => rreadI_w (xs.drop at') _ (w.drewN m) (by rw [List.length_drop]; omega) (okB_drop hx at') (show RB.Is (w.drewN m) _ _ from hD))
    generalize readU (xs.drop at') = rr at *
    obtain ⟨y, s, er⟩ := rr
    simp only at hcase hrl hre hsm
    have hzr := zag_in hrl
    have c0 := fun m => show (w.drewN m).cell? ⟨bw, 0, none⟩ = some (.slice p xs.length c) from rowOf_cell hbox.row 0
    have c1 := fun m => show (w.drewN m).cell? ⟨bw, 1, none⟩ = some (.int .i64 (at' : Int)) from rowOf_cell hbox.row 1
    have d1 := fun m => show (w.drewN m).frozen? ⟨bw, 1, none⟩ = false from rowOf_frozen hbox.row 1
    have d2 := fun m => show (w.drewN m).frozen? ⟨bw, 2, none⟩ = false from rowOf_frozen hbox.row 2
    have c2m := fun m => show (w.drewN m).cell? ⟨bw, 2, none⟩ = some (.int .i64 ((0 : Nat) : Int)) from rowOf_cell hbox.row 2
    clear hD hbox hI hG
    generalize hn : xs.length = n at *
    have HN := Lib.hid hn
    clear hn
    go_enter Try.func37, Try.ntmps37
    go_wp2_with fail
    go_quiet ((go_at_call 52; exact Calls.quiet_of_same (HR.out _)))
    have k1 := c1 nq
    have k2 := c2m nq
    have j1 := d1 nq
    have j2 := d2 nq
    have HW : Hid (WB (w.drewN nq) bw (.slice p n c) at' 0) := H.out
    have HN0 := Lib.hid (Nb.drewN (bw := bw) w nq)
    clear c0 c1 d1 d2 c2m HR H c2
    generalize w.drewN nq = wq at *
    generalize (if c = at' then p else Option.map (fun x => x.add at') p) = pq at *
    (try simp only at hzr)
    have hcast : ((at' + s : Nat) : Int) = (at' : Int) + (s : Int) := by omega
    rcases hcase with ⟨he0, hs, hG2⟩ | ⟨hne, hres⟩
    · subst he0
      have HG2 := Lib.hid hG2
      have HF := Lib.hid ((HW.out.set2 0).set1 (at' + s))
      rw [hcast] at HF
      have HNf := Lib.hid ((HN0.out.set 2 (.int .i64 ((0 : Nat) : Int))).set 1 (.int .i64 ((at' : Int) + (s : Int))))
      have HZr := Lib.hid hzr
      clear hG2 HW HN0 hrl hzr hsm
      generalize zag y = z at *
      go_wp2
      go_returns
      exact ⟨z, at' + s, 0, rfl, HZr.out, by omega, HNf.out, HF.out, HG2.out⟩
    · obtain rfl := hsm hne
      have HG2 : Hid (Gd xs res at' er (f 0)) := ⟨by rw [HN.out]; exact hle0, .inr ⟨hne, hres⟩⟩
      have hnb : ((er : Int) != 0) = true := by simp; omega
      have HF := Lib.hid ((HW.out.set2 er).set1 at')
      have HNf := Lib.hid ((HN0.out.set 2 (.int .i64 (er : Int))).set 1 (.int .i64 (at' : Int)))
      clear HW HN0 hrl hres hne hsm hcast
      generalize zag y = z at *
      go_wp2
      go_returns
      exact ⟨0, at', er, rfl, by decide, by omega, HNf.out, HF.out, HG2.out⟩
  · have hne : ((e : Int) != 0) = true := by simp; omega
    have HG := Lib.hid (hG.bad he0 (f 0))
    clear hbox hI hG he0
    go_enter Try.func37, Try.ntmps37
    go_wp2
    go_returns
    exact ⟨0, at', e, rfl, by decide, he, Nb.drewN w 0, H.out, HG.out⟩
end Go.Proofs.Ytdhmoiiagplbpaa
