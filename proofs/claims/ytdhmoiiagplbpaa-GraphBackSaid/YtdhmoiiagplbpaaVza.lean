/- graph.putScopes -/
import Derived.Test.YtdhmoiiagplbpaaVz
import Derived.Test.YtdhmoiiagplbpaaVi
import Derived.Deep.RegionLaw
namespace Go.Proofs.Ytdhmoiiagplbpaa
open Go.RowKit
set_option linter.unusedVariables false
set_option linter.unusedSimpArgs false

/-- what puts a part of a graph's bytes answers: these and what is left are all -/
def PutT (B : Nat) (w : World) (v : Value) (rest tot : List Int) (e : Ending) (w' : World) : Prop := ∃ v' ys, e = .returned v' ∧ OwnF B w' v' ys ∧ ys ++ rest = tot ∧ Appd w w' v v'
theorem Appd.drew {w w1 : World} {v v1 : Value} (h : Appd w.drew w1 v v1) : Appd w w1 v v1 := ⟨⟨h.grown.os, h.grown.tape, h.grown.output, h.grown.size, h.grown.block⟩, h.stays⟩
theorem flat1 (a : Int) : flatN [a] = bytesOf a.toNat := by unfold flatN; simp
theorem flat2 (a b : Int) : flatN [a, b] = bytesOf a.toNat ++ bytesOf b.toNat := by unfold flatN; simp
theorem low63 {n : Int} (h : lowN n) : 0 ≤ n ∧ n < 9223372036854775808 := by unfold lowN at h; omega
set_option maxRecDepth 100000 in
set_option maxHeartbeats 8000000 in
theorem pscopes_any (g : GV) (v : Value) (bs tot : List Int) (b off c b2 off2 c2 : Nat) (p3 p4 : Option Addr) (n3 c3 n4 c4 : Nat) (w0 w : World) (hf : fitsS g.parent g.bound) (hB : Below w0.heap.size w0 w) (hb : b < w0.heap.size) (hr : RN.Row w0 b off g.parent) (hb2 : b2 < w0.heap.size) (hr2 : RN.Row w0 b2 off2 g.bound) (ho : OwnF w0.heap.size w v bs) (ht : bs ++ (bytesOf g.parent.length ++ tailS g 0) = tot) (hl : tot.length ≤ 60000) :
    Calls Try.prog 19 #[v, .agg #[.slice (some ⟨b, off, none⟩) g.parent.length c, .slice (some ⟨b2, off2, none⟩) g.bound.length c2, .slice p3 n3 c3, .slice p4 n4 c4]] w (PutT w0.heap.size w v (bytesOf g.nodes.length ++ tailN g 0) tot) := by
  obtain ⟨f1, f2, f3, f4, f5, f6, f7⟩ := hf
  have hlowP : ∀ j, 1 ≤ j → j < g.parent.length → lowN g.parent[j]! := fun j h1 h2 => by
    rw [← show g.parent.tail[j - 1]! = g.parent[j]! by rw [tail_get (by omega), Nat.sub_add_cancel h1], getElem!_pos g.parent.tail (j - 1) (by rw [List.length_tail]; omega)]
    exact f6 _ (List.getElem_mem _)
  have hlowQ : ∀ j, 1 ≤ j → j < g.parent.length → lowN g.bound[j]! := fun j h1 h2 => by
    rw [← show g.bound.tail[j - 1]! = g.bound[j]! by rw [tail_get (by omega), Nat.sub_add_cancel h1], getElem!_pos g.bound.tail (j - 1) (by rw [List.length_tail]; omega)]
    exact f7 _ (List.getElem_mem _)
  have HLP := Lib.hid hlowP; have HLQ := Lib.hid hlowQ
  have HSt := Lib.hid (fun j (h1 : 1 ≤ j) (h2 : j < g.parent.length) => show tailS g (j - 1) = bytesOf g.parent[j]!.toNat ++ (bytesOf g.bound[j]!.toNat ++ tailS g j) by
    have := tailS_step f3 (j := j - 1) (by omega)
    rw [Nat.sub_add_cancel h1] at this
    exact this)
  have HEnd := Lib.hid (tailS_end f1 f3)
  have HRow := Lib.hid (fun W (hW : Below w0.heap.size w0 W) j (hj : j < g.parent.length) => atN (hr.below hW hb) j hj)
  have HRow2 := Lib.hid (fun W (hW : Below w0.heap.size w0 W) j (hj : j < g.parent.length) => atN (hr2.below hW hb2) j (by rw [← f3]; exact hj))
  clear hlowP hlowQ hr hr2 f4 f5 f6 f7
  rw [← f3]
  generalize hn : g.parent.length = n at *
  clear hn f3
  have HT0 := Lib.hid ht
  have HL := Lib.hid hl
  have HBw : Hid (Below w0.heap.size w0 (w.alloc (.cells #[.slice (some ⟨b, off, none⟩) n c, .slice (some ⟨b2, off2, none⟩) n c2, .slice p3 n3 c3, .slice p4 n4 c4] 26))) := hB.alloc hB.size _
  have hap : v.ownBlock ≠ some w.heap.size := fun e => by have := (ho.lt _ e).2; omega
  have HX : Hid ((w.alloc (.cells #[.slice (some ⟨b, off, none⟩) n c, .slice (some ⟨b2, off2, none⟩) n c2, .slice p3 n3 c3, .slice p4 n4 c4] 26)).heap[w.heap.size]? = some (.cells #[.slice (some ⟨b, off, none⟩) n c, .slice (some ⟨b2, off2, none⟩) n c2, .slice p3 n3 c3, .slice p4 n4 c4] 26 (0, 0))) := heap_alloc_new w _
  have HAv := Lib.hid hap
  have HO := Lib.hid (ho.alloc (.cells #[.slice (some ⟨b, off, none⟩) n c, .slice (some ⟨b2, off2, none⟩) n c2, .slice p3 n3 c3, .slice p4 n4 c4] 26))
  have HA0 := Lib.hid (Appd.ofBelow (w1 := w.alloc (.cells #[.slice (some ⟨b, off, none⟩) n c, .slice (some ⟨b2, off2, none⟩) n c2, .slice p3 n3 c3, .slice p4 n4 c4] 26)) ((Below.refl w.heap.size w).alloc (Nat.le_refl _) _) v)
  have hbs : bs.length + 10 * 1 ≤ 900000 := by rw [← ht, List.length_append] at hl; omega
  have HP := Lib.hid (put_lit [(n : Int)] w0.heap.size v bs (w.alloc (.cells #[.slice (some ⟨b, off, none⟩) n c, .slice (some ⟨b2, off2, none⟩) n c2, .slice p3 n3 c3, .slice p4 n4 c4] 26)) (w.heap.size + 1) 1 3 (by simp) rfl (by simp; omega) hbs HO.out HBw.out.size)
  rw [flat1, Int.toNat_natCast] at HP
  have HSz : Hid (w0.heap.size ≤ w.heap.size) := hB.size
  have HvB : Hid (∀ k, v.ownBlock = some k → w0.heap.size ≤ k) := fun k hk => (ho.lt k hk).1
  clear ht hl hB hap ho hbs
  go_enter Try.func19, Try.ntmps19
  go_wp2_with fail
  refine (HP.out).mono ?_
  rintro ee w2 ⟨v2, rfl, hO2, hA2⟩
  have HO2 := Lib.hid hO2; have HA2 := Lib.hid hA2
  clear hO2 hA2 HP
  go_wp2_with fail
  have HX0 := HX.out
  have hsz1 : w.heap.size < (w.alloc (.cells #[.slice (some ⟨b, off, none⟩) n c, .slice (some ⟨b2, off2, none⟩) n c2, .slice p3 n3 c3, .slice p4 n4 c4] 26)).heap.size := by simp
  generalize w.alloc (.cells #[.slice (some ⟨b, off, none⟩) n c, .slice (some ⟨b2, off2, none⟩) n c2, .slice p3 n3 c3, .slice p4 n4 c4] 26) = wA at *
  have HXs := Lib.hid hsz1
  clear HX0 hsz1 HO
  go_loopg [0, 5] 9 (fun gg u9 i wr => ∃ (k : Nat) (u : Value) (ys : List Int), u = u9 ∧ 1 ≤ k ∧ k ≤ n ∧ n - k ≤ gg ∧ i = .int .i64 (k : Int) ∧ Hid (OwnF w0.heap.size wr u ys) ∧ Hid (ys ++ tailS g (k - 1) = tot) ∧ Hid (Appd wA wr v u))
  case atStart => exact ⟨1, _, _, rfl, by omega, by omega, by omega, rfl, HO2.out, (by show _ = _; rw [← HT0.out, List.append_assoc]), HA2.out⟩
  case round =>
    clear HO2 HA2 HT0
    obtain ⟨k, u, ys, rfl, hk1, hkn, hg, rfl, HO, HT, HA⟩ := hrel
    have hrow := (HA.out.row HX.out HAv.out)
    have hrw : rowOf wr w.heap.size = some #[.slice (some ⟨b, off, none⟩) n c, .slice (some ⟨b2, off2, none⟩) n c2, .slice p3 n3 c3, .slice p4 n4 c4] := by unfold rowOf; rw [hrow]; rfl
    have q0 : wr.cell? ⟨w.heap.size, 0, none⟩ = some (.slice (some ⟨b, off, none⟩) n c) := rowOf_cell hrw 0
    have q1 : wr.cell? ⟨w.heap.size, 1, none⟩ = some (.slice (some ⟨b2, off2, none⟩) n c2) := rowOf_cell hrw 1
    clear hrow hrw
    by_cases hlt : k < n
    · have hlz : (k : Int) < (n : Int) := by omega
      have HBr := Lib.hid (HA.out.below HBw.out HBw.out.size HvB.out)
      have e0 := HRow.out wr HBr.out k hlt
      have e1 := HRow2.out wr HBr.out k hlt
      have h0 := HLP.out k hk1 hlt
      have h1 := HLQ.out k hk1 hlt
      have hst := HSt.out k hk1 hlt
      have htt := HT.out
      rw [hst] at htt
      generalize g.parent[k]! = x at *
      generalize g.bound[k]! = y at *
      have HTT := Lib.hid htt
      have hyl : ys.length + 10 * 2 ≤ 900000 := by have := HL.out; rw [← htt, List.length_append] at this; omega
      have HC := Lib.hid (put_lit [x, y] w0.heap.size u ys wr.drew wr.heap.size 2 3 rfl rfl (by intro z hz; simp at hz; rcases hz with rfl | rfl <;> exact low63 (by assumption)) hyl HO.out HBr.out.size)
      rw [flat2] at HC
      clear HRow HRow2 HSt HEnd HLP HLQ hst htt HT hyl h0 h1
      go_upto_region 5 with (fail)
      go_region_law (first | (go_simp; go_at_call 40; refine (HC.out).mono ?_; rintro ee wn ⟨v3, rfl, hO3, hA3⟩))
      all_goals try simp only [List.getElem_toArray, List.getElem_cons_succ, List.getElem_cons_zero, Act.put, List.setIfInBounds_toArray, List.set_cons_zero, List.set_cons_succ]
      all_goals go_wp2_with fail
      all_goals go_roundg (n - (k + 1))
      all_goals first
        | omega
        | exact ⟨k + 1, _, _, rfl, by omega, by omega, by omega, by go_num, hO3, (by show _ = _; rw [← HTT.out, Nat.add_sub_cancel]; simp only [List.append_assoc]), HA.out.trans hA3.drew⟩
    · have hlz : ¬ (k : Int) < (n : Int) := by omega
      obtain rfl : k = n := by omega
      have htt := HT.out
      rw [HEnd.out] at htt
      have HTT := Lib.hid htt
      clear HT htt HEnd HRow HRow2 HSt HLP HLQ
      go_wp2
      go_returns
      exact ⟨_, ys, rfl, HO.out, HTT.out, HA0.out.trans HA.out⟩
end Go.Proofs.Ytdhmoiiagplbpaa
