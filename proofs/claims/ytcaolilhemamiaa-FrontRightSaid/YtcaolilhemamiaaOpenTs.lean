import Derived.Test.YtcaolilhemamiaaOpenTime
import Derived.Test.YtcaolilhemamiaaCs
import Derived.Deep.Slices
namespace Go.Proofs.Ytcaolilhemamiaa
open Go.ChangeShapes Go.WideShapes Go.ChangeAt Go.RowKit Go.Deep
set_option linter.unusedVariables false
set_option linter.unusedSimpArgs false

theorem int_size : Try.prog.cellsOf 3 = 1 := by kernel_rfl
theorem arr_size : Try.prog.cellsOf 22 = 4 := by kernel_rfl
section
variable {H : Type} {enc : TypeId × Value → H} {w : World} {base : Nat} {sp : Nat → Bool} {held : Bool}
set_option maxRecDepth 100000 in
theorem open_time_cells {n : Nat} {cs : List Value} {x : DataW H × List MemPlace} (h : DataW.trod enc Try.prog w base sp held n 26 cs = some x) : ∃ t : TV, cs = t.enc := by
  obtain ⟨xs, m, _, _, hl, hxl, hf⟩ := DataW.trod_struct Try.underlying26 h
  rw [time_size] at hl
  match cs, hl with
  | [v0, v1, v2, v3, v4], _ =>
    match xs, hxl with
    | [y0, y1], _ =>
      have g0 := hf 0 ⟨ "D", 3, 0, false, "", "", 0⟩ rfl
      have g1 := hf 1 ⟨ "C", 22, 1, false, "", "", 8⟩ rfl
      dsimp only at g0 g1
      rw [int_size] at g0
      rw [arr_size] at g1
      simp only [ List.drop_zero, List.take_succ_cons, List.take_zero, List.drop_succ_cons, List.getElem?_cons_zero, List.getElem?_cons_succ] at g0 g1
      obtain ⟨d, e0, _, _⟩ := DataW.trod_int Try.underlying3 g0
      obtain ⟨zs, k, _, _, hz, hzl, hg⟩ := DataW.trod_array Try.underlying22 g1
      match zs, hzl with
      | [z0, z1, z2, z3], _ =>
        have a0 := hg 0 (by decide)
        have a1 := hg 1 (by decide)
        have a2 := hg 2 (by decide)
        have a3 := hg 3 (by decide)
        simp only [int_size] at a0 a1 a2 a3
        simp at a0 a1 a2 a3
        obtain ⟨c0, b0, _, _⟩ := DataW.trod_int Try.underlying3 a0
        obtain ⟨c1, b1, _, _⟩ := DataW.trod_int Try.underlying3 a1
        obtain ⟨c2, b2, _, _⟩ := DataW.trod_int Try.underlying3 a2
        obtain ⟨c3, b3, _, _⟩ := DataW.trod_int Try.underlying3 a3
        have r0 : [v0] = [Value.int .i64 d] := e0
        have r1 : [v1] = [Value.int .i64 c0] := b0
        have r2 : [v2] = [Value.int .i64 c1] := b1
        have r3 : [v3] = [Value.int .i64 c2] := b2
        have r4 : [v4] = [Value.int .i64 c3] := b3
        obtain rfl := (List.cons.inj r0).1
        obtain rfl := (List.cons.inj r1).1
        obtain rfl := (List.cons.inj r2).1
        obtain rfl := (List.cons.inj r3).1
        obtain rfl := (List.cons.inj r4).1
        exact ⟨⟨d, c0, c1, c2, c3⟩, rfl⟩
set_option maxRecDepth 100000 in
/-- an argument that is a slice of timestamps -/
theorem open_times {r : Reach} {b0 : Nat} {v : Value} {d : DataW H} {ps : List MemPlace} (hval : Value.okWide Try.prog w r b0 38 v) (hd : DataW.Trod enc Try.prog w base sp held 38 v d ps) : ∃ xs : List TV, IsT w v xs ∧ capOk v := by
  obtain ⟨fuel, h⟩ := hd
  obtain ⟨pa, ln, cp, rfl⟩ := okWide_slice Try.underlying38 hval
  rcases open_slice Try.underlying38 h with ⟨e, _⟩ | ⟨a, len, cap, m, n, D, Pl, e, hb, hl, hm, hmm, _, hx⟩
  · simp [Value.cells] at e
    obtain ⟨rfl, rfl, rfl⟩ := e
    exact ⟨[], .inl ⟨rfl, none, 0, rfl, fun _ => rfl⟩, fun p n c e => by cases e; omega⟩
  · simp [Value.cells] at e
    obtain ⟨rfl, rfl, rfl⟩ := e
    have hlm : ln ≤ m := by rw [hmm]; split <;> omega
    rw [time_size] at hx
    have each : ∀ i, i < m → ∃ t : TV, ∀ k u, t.enc[k]? = some u → w.cell? ((a.add (i * 5)).add k) = some u := by
      intro i hi
      obtain ⟨cs', h1, h2⟩ := hx i hi
      obtain ⟨_, hlen, hcell⟩ := World.cells?_some h1
      obtain ⟨t, rfl⟩ := open_time_cells h2
      refine ⟨t, fun k u hu => ?_⟩
      have hk : k < 5 := by have := (List.getElem?_eq_some_iff.1 hu).1; rw [enc_len] at this; exact this
      rw [hcell k hk]
      exact hu
    obtain ⟨T, hT⟩ := choose_lt each
    by_cases h0 : ln = 0
    · subst h0
      exact ⟨[], .inl ⟨rfl, some a, cp, rfl, fun h => by cases h⟩, fun p n c e => by cases e; omega⟩
    · have c00 := hT 0 (by omega) 0 _ rfl
      have hspot : a.spot = none := by
        rw [add_add] at c00
        unfold World.cell? at c00
        split at c00
        · split at c00
          · cases c00
          · rename_i hn
            simp [Addr.add] at hn
            exact hn
        · cases c00
      obtain ⟨b, off, spot⟩ := a
      simp only at hspot
      subst hspot
      have hbl : b < w.heap.size := World.block_lt_of_cell? _ _ (by rw [add_add, Nat.add_zero, Addr.add_lit] at c00; exact c00)
      refine ⟨(List.range ln).map T, .inr ⟨by simp [h0], b, off, cp, by simp, hbl, ?_⟩, fun p n c e => by cases e; omega⟩
      intro j hj i u hu
      have hj' : j < ln := by simpa using hj
      have hg : ((List.range ln).map T)[j]! = T j := by simp [hj']
      rw [hg] at hu
      have := hT j (by omega) i u hu
      rw [add_add, Addr.add_lit, ← Nat.add_assoc] at this
      exact this
end
end Go.Proofs.Ytcaolilhemamiaa
