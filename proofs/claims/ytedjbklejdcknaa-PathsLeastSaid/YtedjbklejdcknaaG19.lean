/- the document's Chain of scopes -/
import Derived.Test.YtedjbklejdcknaaG11
import Derived.Deep.RegionHeldLaw
import Derived.Deep.Cut
namespace Go.Proofs.Ytedjbklejdcknaa
open Go.RowKit
set_option linter.unusedVariables false
set_option linter.unusedSimpArgs false

/-- a scope and its parents, the first one at the beginning, at most so many -/
def chainL (P : List Int) : Nat → Int → List Int
  | 0, _ => []
  | f + 1, s => if 0 ≤ s ∧ s < (P.length : Int) then chainL P f P[s.toNat]! ++ [s] else []
theorem chainL_len (P : List Int) : ∀ (f : Nat) (s : Int), (chainL P f s).length ≤ f
  | 0, _ => Nat.le_refl _
  | f + 1, s => by
    unfold chainL
    split
    · have := chainL_len P f P[s.toNat]!
      simp only [List.length_append, List.length_singleton]
      omega
    · simp
theorem RN_lit (w : World) (a : Int) : RN.Own w.heap.size (w.alloc (.cells #[.int .i64 a] 3)) (.slice (some ⟨w.heap.size, 0, none⟩) 1 1) [a] :=
  ⟨rfl, .inr ⟨w.heap.size, 1, #[.int .i64 a], rfl, Nat.le_refl _, heap_alloc_new w _, Nat.le_refl 1, by decide, rfl, rfl⟩⟩
set_option maxRecDepth 100000 in
set_option maxHeartbeats 8000000 in
theorem rchain_any (g : GV) (v : Value) (s : Int) (w : World) (h : IsG w v g) (hl : g.parent.length ≤ 900000) : Calls Try.prog 33 #[v, .int .i64 s] w (RN.Made (chainL g.parent 10 s) w) := by
  obtain ⟨pv, bv, nv, ev, rfl, h1, h2, ⟨xs, h3, h3n, h3a⟩, h4⟩ := h
  obtain ⟨p1, c1, rfl, hop⟩ := RowKind.Is.opened h1
  obtain ⟨p2, c2, rfl⟩ := h2.slice
  obtain ⟨p3, c3, rfl⟩ := h3.slice
  obtain ⟨p4, c4, rfl⟩ := h4.slice
  have hrow : Hid (∀ (W : World), Below w.heap.size w W → ∀ j, j < g.parent.length → ∃ b off, p1 = some ⟨b, off, none⟩ ∧ W.cell? ⟨b, off + j, none⟩ = some (.int .i64 g.parent[j]!)) := fun W hW j hj => by
    obtain ⟨b, off, e, hb, hr⟩ := hop j hj
    exact ⟨b, off, e, atN (hr.below hW hb) j hj⟩
  clear h1 h2 h3 h3n h3a h4 hop
  generalize g.bound.length = n2 at *
  generalize xs.length = n3 at *
  generalize g.edges.length = n4 at *
  generalize g.parent = P at *
  have HB0 := Lib.hid ((Below.refl w.heap.size w).alloc (Nat.le_refl _) (.cells #[.slice p1 P.length c1, .slice p2 n2 c2, .slice p3 n3 c3, .slice p4 n4 c4] 26))
  have HX : Hid (rowOf (w.alloc (.cells #[.slice p1 P.length c1, .slice p2 n2 c2, .slice p3 n3 c3, .slice p4 n4 c4] 26)) w.heap.size = some #[.slice p1 P.length c1, .slice p2 n2 c2, .slice p3 n3 c3, .slice p4 n4 c4]) := row_new rfl
  have HS : Hid (∀ (f : Nat) (t : Int), 0 ≤ t → t < (P.length : Int) → chainL P (f + 1) t = chainL P f P[t.toNat]! ++ [t]) := fun f t h1 h2 => by show (if _ then _ else _) = _; rw [if_pos ⟨h1, h2⟩]
  have HE : Hid (∀ (f : Nat) (t : Int), ¬ (0 ≤ t ∧ t < (P.length : Int)) → chainL P f t = []) := fun f t h => by cases f; rfl; exact if_neg h
  generalize hF : chainL P 10 s = F at *
  have HF := Lib.hid hF
  clear hF
  generalize hn : P.length = n at *
  have HN := Lib.hid hn
  clear hn
  go_enter Try.func33, Try.ntmps33
  go_wp2
  go_loopg [1, 5] 10 (fun gg sv ov wr => ∃ (t : Int) (out : List Int), sv = .int .i64 t ∧ out.length ≤ 10 ∧ 10 - out.length ≤ gg ∧ Hid (Below w.heap.size w wr) ∧ Hid (rowOf wr w.heap.size = some #[.slice p1 n c1, .slice p2 n2 c2, .slice p3 n3 c3, .slice p4 n4 c4]) ∧ Hid (RN.Own (w.heap.size + 1) wr ov out) ∧ Hid (chainL P (10 - out.length) t ++ out = F))
  case atStart => exact ⟨s, [], rfl, by simp, by simp, HB0.out, HX.out, RowKind.Own.nil _ _ _, by show chainL P 10 s ++ [] = F; rw [List.append_nil]; exact HF.out⟩
  case round =>
    clear HB0 HX HF
    obtain ⟨t, out, rfl, hol, hg, HB, HX, HO, HQ⟩ := hrel
    have d0 : wr.cell? ⟨w.heap.size, 0, none⟩ = some (.slice p1 n c1) := rowOf_cell HX.out 0
    obtain ⟨po, co, ho⟩ := HO.out.is.slice
    subst ho
    generalize hlo : out.length = lo at *
    have HLO := Lib.hid hlo
    clear hlo
    by_cases ht : 0 ≤ t ∧ t < (n : Int)
    · obtain ⟨t0, t1⟩ := ht
      by_cases hlt : lo < 10
      · have hltz : (lo : Int) < 10 := by omega
        obtain ⟨j, rfl⟩ : ∃ j : Nat, t = (j : Int) := ⟨t.toNat, by omega⟩
        obtain ⟨b, off, rfl, hc⟩ := hrow.out wr HB.out j (by omega)
        have HC : Hid (∀ W, Below w.heap.size w W → W.cell? ⟨b, off + j, none⟩ = some (.int .i64 P[j]!)) := fun W hW => by
          obtain ⟨b', off', e, hc'⟩ := hrow.out W hW j (by omega)
          simp only [Option.some.injEq, Addr.mk.injEq] at e
          obtain ⟨rfl, rfl, _⟩ := e
          exact hc'
        have hq := HQ.out
        rw [show 10 - lo = (10 - (lo + 1)) + 1 by omega, HS.out _ _ t0 t1, List.append_assoc] at hq
        have HQ2 := Lib.hid hq
        have HZ : Hid (w.heap.size + 1 ≤ wr.heap.size) := rowOf_lt HX.out
        have HLT := Lib.hid (RN_lit wr (j : Int))
        have HBW := Lib.hid ((Below.refl wr.heap.size wr).alloc (Nat.le_refl _) (.cells #[.int .i64 (j : Int)] 3))
        have HOI := Lib.hid ((HO.out.alloc (.cells #[.int .i64 (j : Int)] 3)).is)
        have HLen : Hid (([(j : Int)] : List Int).length + out.length ≤ 1000000) := by show _ ≤ _; rw [HLO.out, List.length_singleton]; omega
        clear hc hrow hq HQ HS HE HO
        rw [show ((j : Int)).toNat = j from rfl] at HQ2
        generalize P[j]! = t2 at *
        have HSz : Hid (wr.heap.size ≤ (wr.alloc (.cells #[.int .i64 (j : Int)] 3)).heap.size) := by show _ ≤ _; simp
        go_wp2_with (at_builtin; refine RowKind.Own.appendAny (R := RN) (ys := out) HLT.out HBW.out HSz.out rfl _ _ rfl rfl rfl HOI.out HLen.out ?_; intro v2 w2 hO2 hB2 hz2; have HO2 := Lib.hid hO2; have HB2 := Lib.hid hB2; clear hO2 hB2 hz2; have HB3 := Lib.hid (bstep HB.out HB2.out HB.out.size); have HX3 := Lib.hid (rowOf_below HX.out HB2.out (rowOf_lt HX.out)); have e0 : w2.cell? ⟨w.heap.size, 0, none⟩ = some (.slice (some ⟨b, off, none⟩) n c1) := rowOf_cell HX3.out 0; have e1 := HC.out w2 HB3.out)
        go_roundg (10 - (lo + 1))
        case measure => omega
        case rel => exact ⟨t2, [(j : Int)] ++ out, rfl, by rw [List.length_append, HLO.out, List.length_singleton]; omega, by rw [List.length_append, HLO.out, List.length_singleton]; omega, HB3.out, HX3.out, HO2.out.mono HZ.out, by have e := HLO.out; simp only [List.singleton_append, List.length_cons, e]; exact HQ2.out⟩
      · have hltz : ¬ (lo : Int) < 10 := by omega
        have hq := HQ.out
        rw [show 10 - lo = 0 by omega] at hq
        have HQ2 : Hid (out = F) := hq
        clear hrow hq HQ HS HE
        go_wp2
        go_returns
        rw [← HQ2.out]
        exact ⟨_, rfl, HO.out.mono (Nat.le_succ _), HB.out⟩
    · have hq := HQ.out
      rw [HE.out _ _ ht] at hq
      have HQ2 : Hid (out = F) := hq
      clear hrow hq HQ HS HE
      have hcase : ¬ 0 ≤ t ∨ (0 ≤ t ∧ ¬ t < (n : Int)) := by omega
      rcases hcase with ht1 | ⟨ht1, ht2⟩
      · clear ht
        go_wp2
        go_returns
        rw [← HQ2.out]
        exact ⟨_, rfl, HO.out.mono (Nat.le_succ _), HB.out⟩
      · clear ht
        go_wp2
        go_returns
        rw [← HQ2.out]
        exact ⟨_, rfl, HO.out.mono (Nat.le_succ _), HB.out⟩
end Go.Proofs.Ytedjbklejdcknaa
/- a graph that is read, opened; the document's Place, Level, Step -/
namespace Go.Proofs.Ytedjbklejdcknaa
open Go.RowKit
set_option linter.unusedVariables false
set_option linter.unusedSimpArgs false

/-- what lies in a graph's lists -/
structure GO (w : World) (g : GV) (p1 p2 p3 p4 : Option Addr) : Prop where
  par : ∀ W, Below w.heap.size w W → ∀ j, j < g.parent.length → ∃ b off, p1 = some ⟨b, off, none⟩ ∧ W.cell? ⟨b, off + j, none⟩ = some (.int .i64 g.parent[j]!)
  bnd : ∀ W, Below w.heap.size w W → ∀ j, j < g.bound.length → ∃ b off, p2 = some ⟨b, off, none⟩ ∧ W.cell? ⟨b, off + j, none⟩ = some (.int .i64 g.bound[j]!)
  nod : ∀ j, j < g.nodes.length → ∃ b off p c, p3 = some ⟨b, off, none⟩ ∧ RC.Is w (.slice p g.nodes[j]!.prog.length c) g.nodes[j]!.prog ∧ ∀ W, Below w.heap.size w W →
    W.cell? ⟨b, off + j * 4, none⟩ = some (.int .i64 g.nodes[j]!.kind) ∧ W.cell? ⟨b, off + j * 4 + 1, none⟩ = some (.int .i64 g.nodes[j]!.scope) ∧ W.cell? ⟨b, off + j * 4 + 2, none⟩ = some (.int .i64 g.nodes[j]!.arg) ∧ W.cell? ⟨b, off + j * 4 + 3, none⟩ = some (.slice p g.nodes[j]!.prog.length c)
  edg : ∀ j, j < g.edges.length → ∃ b off, p4 = some ⟨b, off, none⟩ ∧ ∀ W, Below w.heap.size w W →
    W.cell? ⟨b, off + j * 4, none⟩ = some (.int .i64 g.edges[j]!.src) ∧ W.cell? ⟨b, off + j * 4 + 1, none⟩ = some (.int .i64 g.edges[j]!.dst) ∧ W.cell? ⟨b, off + j * 4 + 2, none⟩ = some (.int .i64 g.edges[j]!.port) ∧ W.cell? ⟨b, off + j * 4 + 3, none⟩ = some (.bool g.edges[j]!.ex)
theorem GO.below {w W : World} {g : GV} {p1 p2 p3 p4 : Option Addr} (h : GO w g p1 p2 p3 p4) (hb : Below w.heap.size w W) : GO W g p1 p2 p3 p4 where
  par W2 h2 := h.par W2 (hb.trans (h2.mono hb.size))
  bnd W2 h2 := h.bnd W2 (hb.trans (h2.mono hb.size))
  nod j hj := by
    obtain ⟨b, off, p, c, e, hi, hc⟩ := h.nod j hj
    exact ⟨b, off, p, c, e, hi.below hb, fun W2 h2 => hc W2 (hb.trans (h2.mono hb.size))⟩
  edg j hj := by
    obtain ⟨b, off, e, hc⟩ := h.edg j hj
    exact ⟨b, off, e, fun W2 h2 => hc W2 (hb.trans (h2.mono hb.size))⟩
theorem IsG.go {w : World} {v : Value} {g : GV} (h : IsG w v g) : ∃ p1 c1 p2 c2 p3 c3 p4 c4, v = .agg #[.slice p1 g.parent.length c1, .slice p2 g.bound.length c2, .slice p3 g.nodes.length c3, .slice p4 g.edges.length c4] ∧ GO w g p1 p2 p3 p4 := by
  obtain ⟨pv, bv, nv, ev, rfl, h1, h2, ⟨xs, h3, h3n, h3a⟩, h4⟩ := h
  obtain ⟨p1, c1, rfl, o1⟩ := RowKind.Is.opened h1
  obtain ⟨p2, c2, rfl, o2⟩ := RowKind.Is.opened h2
  obtain ⟨p3, c3, rfl, o3⟩ := RowKind.Is.opened h3
  obtain ⟨p4, c4, rfl, o4⟩ := RowKind.Is.opened h4
  refine ⟨p1, c1, p2, c2, p3, c3, p4, c4, by rw [h3n], ?_, ?_, ?_, ?_⟩
  · intro W hW j hj
    obtain ⟨b, off, e, hb, hr⟩ := o1 j hj
    exact ⟨b, off, e, atN (hr.below hW hb) j hj⟩
  · intro W hW j hj
    obtain ⟨b, off, e, hb, hr⟩ := o2 j hj
    exact ⟨b, off, e, atN (hr.below hW hb) j hj⟩
  · intro j hj
    obtain ⟨b, off, e, hb, hr⟩ := o3 j (by omega)
    have q := h3a j hj
    have hn := q.len
    obtain ⟨k1, k2, k3, k4⟩ := q
    refine ⟨b, off, xs[j]!.p, xs[j]!.c, e, by rw [← hn]; exact k4, fun W hW => ?_⟩
    have a := atW (hr.below hW hb) j (by omega)
    rw [k1, k2, k3, hn] at a
    exact a
  · intro j hj
    obtain ⟨b, off, e, hb, hr⟩ := o4 j hj
    exact ⟨b, off, e, fun W hW => atE (hr.below hW hb) j hj⟩

/-- the scope in which an operator takes, or gives -/
def placeG (g : GV) (n : Nat) (gives : Bool) : Int := if (g.nodes[n]!.kind = 10 ∧ gives = false) ∨ (g.nodes[n]!.kind = 11 ∧ gives = true) then g.parent[g.nodes[n]!.scope.toNat]! else g.nodes[n]!.scope
set_option maxRecDepth 100000 in
set_option maxHeartbeats 8000000 in
theorem rplace_any (g : GV) (v : Value) (n : Nat) (gives : Bool) (w : World) (h : IsG w v g) (hn : n < g.nodes.length) (hs : 0 ≤ g.nodes[n]!.scope ∧ g.nodes[n]!.scope < (g.parent.length : Int)) :
    Calls Try.prog 34 #[v, .int .i64 (n : Int), .bool gives] w (Ret (.int .i64 (placeG g n gives)) w) := by
  obtain ⟨p1, c1, p2, c2, p3, c3, p4, c4, rfl, G⟩ := h.go
  clear h
  obtain ⟨s, hsn⟩ : ∃ s : Nat, g.nodes[n]!.scope = (s : Int) := ⟨g.nodes[n]!.scope.toNat, by omega⟩
  obtain ⟨b, off, p, c, rfl, _, hc⟩ := G.nod n hn
  obtain ⟨b2, off2, rfl, _⟩ := G.par w (Below.refl _ _) s (by omega)
  have HP : Hid (∀ W, Below w.heap.size w W → W.cell? ⟨b2, off2 + s, none⟩ = some (.int .i64 g.parent[s]!)) := fun W hW => by
    obtain ⟨b', off', e, hc'⟩ := G.par W hW s (by omega)
    simp only [Option.some.injEq, Addr.mk.injEq] at e
    obtain ⟨rfl, rfl, _⟩ := e
    exact hc'
  have HV : Hid (placeG g n gives = if (g.nodes[n]!.kind = 10 ∧ gives = false) ∨ (g.nodes[n]!.kind = 11 ∧ gives = true) then g.parent[s]! else (s : Int)) := by
    show placeG g n gives = _
    unfold placeG
    rw [hsn]
    rfl
  have hsl : (s : Int) < (g.parent.length : Int) := by omega
  have hnl : (n : Int) < (g.nodes.length : Int) := by omega
  clear G hs hn
  rw [hsn] at hc
  clear hsn
  generalize placeG g n gives = V at *
  generalize g.nodes[n]!.kind = k at *
  generalize g.nodes[n]!.arg = ar at *
  generalize g.nodes[n]!.prog.length = pl at *
  generalize g.parent[s]! = ps at *
  generalize g.parent.length = n1 at *
  generalize g.bound.length = n2 at *
  generalize g.nodes.length = n3 at *
  generalize g.edges.length = n4 at *
  have HC := Lib.hid hc
  clear hc
  have HB0 := Lib.hid ((Below.refl w.heap.size w).alloc (Nat.le_refl _) (.cells #[.slice (some ⟨b2, off2, none⟩) n1 c1, .slice p2 n2 c2, .slice (some ⟨b, off, none⟩) n3 c3, .slice p4 n4 c4] 26))
  obtain ⟨e0, e1, e2, e3⟩ := HC.out _ HB0.out
  have e4 := HP.out _ HB0.out
  have hb1 : b < (w.alloc (.cells #[.slice (some ⟨b2, off2, none⟩) n1 c1, .slice p2 n2 c2, .slice (some ⟨b, off, none⟩) n3 c3, .slice p4 n4 c4] 26)).heap.size := World.block_lt_of_cell? _ _ e0
  have hb0 : b < w.heap.size := World.block_lt_of_cell? _ _ (HC.out _ (Below.refl _ _)).1
  have hb2 : b2 < w.heap.size := World.block_lt_of_cell? _ _ (HP.out _ (Below.refl _ _))
  have h10 : k = 10 ∨ k = 11 ∨ ((k == 10) = false ∧ (k == 11) = false) := by
    by_cases q : k = 10
    · exact .inl q
    · by_cases r : k = 11
      · exact .inr (.inl r)
      · exact .inr (.inr ⟨by simpa using q, by simpa using r⟩)
  clear HC HP HB0
  rcases h10 with rfl | rfl | ⟨k1, k2⟩
  · cases gives
    all_goals
      go_enter Try.func34, Try.ntmps34
      go_wp2
      go_returns
      refine ⟨ret_int ?_, by go_grown⟩
      rw [HV.out]
      simp
  · cases gives
    all_goals
      go_enter Try.func34, Try.ntmps34
      go_wp2
      go_returns
      refine ⟨ret_int ?_, by go_grown⟩
      rw [HV.out]
      simp
  · have HV2 : Hid (V = (s : Int)) := by
      show V = _
      rw [HV.out, if_neg]
      intro q
      rcases q with q | q
      · rw [q.1] at k1; cases k1
      · rw [q.1] at k2; cases k2
    clear HV
    go_enter Try.func34, Try.ntmps34
    go_wp2
    all_goals go_returns
    all_goals refine ⟨ret_int ?_, by go_grown⟩
    all_goals exact HV2.out.symm
/-- at which depth an operator takes, or gives -/
def levelG (g : GV) (n : Nat) (gives : Bool) : Nat := (chainL g.parent 10 (placeG g n gives)).length
def scopeOk (g : GV) (n : Nat) : Prop := 0 ≤ g.nodes[n]!.scope ∧ g.nodes[n]!.scope < (g.parent.length : Int)
set_option maxRecDepth 100000 in
set_option maxHeartbeats 8000000 in
theorem rlevel_any (g : GV) (v : Value) (n : Nat) (gives : Bool) (w : World) (h : IsG w v g) (hl : g.parent.length ≤ 900000) (hn : n < g.nodes.length) (hs : scopeOk g n) :
    Calls Try.prog 17 #[v, .int .i64 (n : Int), .bool gives] w (Ret (.int .i64 (levelG g n gives : Int)) w) := by
  have HP := Lib.hid (fun W (hW : Below w.heap.size w W) => rplace_any g v n gives W (h.below hW) hn hs)
  have HC := Lib.hid (fun s W (hW : Below w.heap.size w W) => rchain_any g v s W (h.below hW) hl)
  obtain ⟨p1, c1, p2, c2, p3, c3, p4, c4, rfl, G⟩ := h.go
  clear h G hs
  unfold levelG
  generalize placeG g n gives = s at *
  have HC2 := Lib.hid (HC.out s)
  clear HC
  generalize chainL g.parent 10 s = L at *
  have hnl : (n : Int) < (g.nodes.length : Int) := by omega
  generalize g.parent.length = n1 at *
  generalize g.bound.length = n2 at *
  generalize g.nodes.length = n3 at *
  generalize g.edges.length = n4 at *
  have HB0 := Lib.hid ((Below.refl w.heap.size w).alloc (Nat.le_refl _) (.cells #[.slice p1 n1 c1, .slice p2 n2 c2, .slice p3 n3 c3, .slice p4 n4 c4] 26))
  have HX0 : Hid (rowOf (w.alloc (.cells #[.slice p1 n1 c1, .slice p2 n2 c2, .slice p3 n3 c3, .slice p4 n4 c4] 26)) w.heap.size = some #[.slice p1 n1 c1, .slice p2 n2 c2, .slice p3 n3 c3, .slice p4 n4 c4]) := row_new rfl
  go_enter Try.func17, Try.ntmps17
  go_wp2_with fail
  refine gen_world (fun W2 => Hid (Below w.heap.size w W2) ∧ Hid (rowOf W2 w.heap.size = some #[.slice p1 n1 c1, .slice p2 n2 c2, .slice p3 n3 c3, .slice p4 n4 c4])) ⟨HB0, HX0⟩ ?_
  rintro w1 ⟨HB, HX⟩
  clear HB0 HX0
  have HK : Hid (∀ W, Below w1.heap.size w1 W → W.cell? ⟨w.heap.size, 0, none⟩ = some (.slice p1 n1 c1) ∧ W.cell? ⟨w.heap.size, 1, none⟩ = some (.slice p2 n2 c2) ∧ W.cell? ⟨w.heap.size, 2, none⟩ = some (.slice p3 n3 c3) ∧ W.cell? ⟨w.heap.size, 3, none⟩ = some (.slice p4 n4 c4)) := fun W hW => by
    have r := rowOf_below HX.out hW (rowOf_lt HX.out)
    exact ⟨rowOf_cell r 0, rowOf_cell r 1, rowOf_cell r 2, rowOf_cell r 3⟩
  have HP1 := Lib.hid (fun W (hW : Below w1.heap.size w1 W) => HP.out W (bstep HB.out hW HB.out.size))
  have HC1 := Lib.hid (fun W (hW : Below w1.heap.size w1 W) => HC2.out W (bstep HB.out hW HB.out.size))
  clear HP HC2 HX
  obtain ⟨e0, e1, e2, e3⟩ := HK.out w1 (Below.refl _ _)
  have hc : Below w1.heap.size w1 w1.drew := (Below.refl _ _).drew
  go_region_held_law (fun w' => w'.cell? ⟨w.heap.size, 0, none⟩ = some (.slice p1 n1 c1) ∧ w'.cell? ⟨w.heap.size, 1, none⟩ = some (.slice p2 n2 c2) ∧ w'.cell? ⟨w.heap.size, 2, none⟩ = some (.slice p3 n3 c3) ∧ w'.cell? ⟨w.heap.size, 3, none⟩ = some (.slice p4 n4 c4)) (first | exact HK.out _ hc | go_keep) (first
    | (go_at_call 33; (with_reducible refine Calls.mono (HC1.out _ hc) ?_); rintro e wn ⟨vn, rfl, hO, hb⟩; obtain ⟨pn, cn, hvn⟩ := hO.is.slice; subst hvn; clear hO; replace hc := bcall hc hb hc.size; clear hb)
    | (go_at_call 34; (with_reducible refine Calls.mono (HP1.out _ hc) ?_); rintro e wn ⟨rfl, hb⟩; replace hc := bcall hc hb hc.size; clear hb))
  all_goals
    try simp only [List.getElem_toArray, List.getElem_cons_succ, List.getElem_cons_zero, Act.put, List.setIfInBounds_toArray, List.set_cons_zero, List.set_cons_succ]
    go_wp2
    go_returns
    exact ⟨rfl, HB.out.trans (hc.mono HB.out.size)⟩
end Go.Proofs.Ytedjbklejdcknaa
