/- a graph that is read, opened; the document's Place, Level, Step -/
import Derived.Test.YtacmdkbmakfdkaaG13
import Derived.Test.YtacmdkbmakfdkaaG09
import Derived.Deep.RegionHeldLaw
import Derived.Deep.Cut
import Derived.Test.YtacmdkbmakfdkaaG05
namespace Go.Proofs.Ytacmdkbmakfdkaa
open Go.RowKit
set_option linter.unusedVariables false
set_option linter.unusedSimpArgs false

/-- what lies in a graph's lists -/
structure GO (w : World) (g : GV) (p1 p2 p3 p4 : Option Addr) : Prop where
  par : ∀ W, Below w.heap.size w W → ∀ j, j < g.parent.length → ∃ b off, p1 = some ⟨b, off, none⟩ ∧ W.cell? ⟨b, off + j, none⟩ = some (.int .i64 g.parent[j]!)
  bnd : ∀ W, Below w.heap.size w W → ∀ j, j < g.bound.length → ∃ b off, p2 = some ⟨b, off, none⟩ ∧ W.cell? ⟨b, off + j, none⟩ = some (.int .i64 g.bound[j]!)
  nod : ∀ j, j < g.nodes.length → ∃ b off p c, p3 = some ⟨b, off, none⟩ ∧ RC.Is w (.slice p g.nodes[j]!.prog.length c) g.nodes[j]!.prog ∧ ∀ W, Below w.heap.size w W →
    W.cell? ⟨b, off + j * 4, none⟩ = some (.int .i64 g.nodes[j]!.kind) ∧ W.cell? ⟨b, off + j * 4 + 1, none⟩ = some (.int .i64 g.nodes[j]!.scope) ∧ W.cell? ⟨b, off + j * 4 + 2, none⟩ = some (.int .i64 g.nodes[j]!.arg) ∧ W.cell? ⟨b, off + j * 4 + 3, none⟩ = some (.slice p g.nodes[j]!.prog.length c)
  edg : ∀ j, j < g.edges.length → ∃ b off, p4 = some ⟨b, off, none⟩ ∧ ∀ W, Below w.heap.size w W →
    W.cell? ⟨b, off + j * 4, none⟩ = some (.int .i64 g.edges[j]!.src) ∧ W.cell? ⟨b, off + j * 4 + 1, none⟩ = some (.int .i64 g.edges[j]!.dst) ∧ W.cell? ⟨b, off + j * 4 + 2, none⟩ = some (.int .i64 g.edges[j]!.port) ∧ W.cell? ⟨b, off + j * 4 + 3, none⟩ = some (.bool g.edges[j]!.ex)
theorem GO.below {w W : World} {g : GV} {p1 p2 p3 p4 : Option Addr} (h : GO w g p1 p2 p3 p4) (hb : Below w.heap.size w W) : GO W g p1 p2 p3 p4 where
  par W2 h2 := h.par W2 (hb.trans (h2.mono hb.size))
  bnd W2 h2 := h.bnd W2 (hb.trans (h2.mono hb.size))
  nod j hj := by
    obtain ⟨b, off, p, c, e, hi, hc⟩ := h.nod j hj
    exact ⟨b, off, p, c, e, hi.below hb, fun W2 h2 => hc W2 (hb.trans (h2.mono hb.size))⟩
  edg j hj := by
    obtain ⟨b, off, e, hc⟩ := h.edg j hj
    exact ⟨b, off, e, fun W2 h2 => hc W2 (hb.trans (h2.mono hb.size))⟩
theorem IsG.go {w : World} {v : Value} {g : GV} (h : IsG w v g) : ∃ p1 c1 p2 c2 p3 c3 p4 c4, v = .agg #[.slice p1 g.parent.length c1, .slice p2 g.bound.length c2, .slice p3 g.nodes.length c3, .slice p4 g.edges.length c4] ∧ GO w g p1 p2 p3 p4 := by
  obtain ⟨pv, bv, nv, ev, rfl, h1, h2, ⟨xs, h3, h3n, h3a⟩, h4⟩ := h
  obtain ⟨p1, c1, rfl, o1⟩ := RowKind.Is.opened h1
  obtain ⟨p2, c2, rfl, o2⟩ := RowKind.Is.opened h2
  obtain ⟨p3, c3, rfl, o3⟩ := RowKind.Is.opened h3
  obtain ⟨p4, c4, rfl, o4⟩ := RowKind.Is.opened h4
  refine ⟨p1, c1, p2, c2, p3, c3, p4, c4, by rw [h3n], ?_, ?_, ?_, ?_⟩
  · intro W hW j hj
    obtain ⟨b, off, e, hb, hr⟩ := o1 j hj
    exact ⟨b, off, e, atN (hr.below hW hb) j hj⟩
  · intro W hW j hj
    obtain ⟨b, off, e, hb, hr⟩ := o2 j hj
    exact ⟨b, off, e, atN (hr.below hW hb) j hj⟩
  · intro j hj
    obtain ⟨b, off, e, hb, hr⟩ := o3 j (by omega)
    have q := h3a j hj
    have hn := q.len
    obtain ⟨k1, k2, k3, k4⟩ := q
    refine ⟨b, off, xs[j]!.p, xs[j]!.c, e, by rw [← hn]; exact k4, fun W hW => ?_⟩
    have a := atW (hr.below hW hb) j (by omega)
    rw [k1, k2, k3, hn] at a
    exact a
  · intro j hj
    obtain ⟨b, off, e, hb, hr⟩ := o4 j hj
    exact ⟨b, off, e, fun W hW => atE (hr.below hW hb) j hj⟩

/-- the scope in which an operator takes, or gives -/
def placeG (g : GV) (n : Nat) (gives : Bool) : Int := if (g.nodes[n]!.kind = 10 ∧ gives = false) ∨ (g.nodes[n]!.kind = 11 ∧ gives = true) then g.parent[g.nodes[n]!.scope.toNat]! else g.nodes[n]!.scope
set_option maxRecDepth 100000 in
set_option maxHeartbeats 8000000 in
theorem rplace_any (g : GV) (v : Value) (n : Nat) (gives : Bool) (w : World) (h : IsG w v g) (hn : n < g.nodes.length) (hs : 0 ≤ g.nodes[n]!.scope ∧ g.nodes[n]!.scope < (g.parent.length : Int)) :
    Calls Try.prog 24 #[v, .int .i64 (n : Int), .bool gives] w (Ret (.int .i64 (placeG g n gives)) w) := by
  obtain ⟨p1, c1, p2, c2, p3, c3, p4, c4, rfl, G⟩ := h.go
  clear h
  obtain ⟨s, hsn⟩ : ∃ s : Nat, g.nodes[n]!.scope = (s : Int) := ⟨g.nodes[n]!.scope.toNat, by omega⟩
  obtain ⟨b, off, p, c, rfl, _, hc⟩ := G.nod n hn
  obtain ⟨b2, off2, rfl, _⟩ := G.par w (Below.refl _ _) s (by omega)
  have HP : Hid (∀ W, Below w.heap.size w W → W.cell? ⟨b2, off2 + s, none⟩ = some (.int .i64 g.parent[s]!)) := fun W hW => by
    obtain ⟨b', off', e, hc'⟩ := G.par W hW s (by omega)
    simp only [Option.some.injEq, Addr.mk.injEq] at e
    obtain ⟨rfl, rfl, _⟩ := e
    exact hc'
  have HV : Hid (placeG g n gives = if (g.nodes[n]!.kind = 10 ∧ gives = false) ∨ (g.nodes[n]!.kind = 11 ∧ gives = true) then g.parent[s]! else (s : Int)) := by
    show placeG g n gives = _
    unfold placeG
    rw [hsn]
    rfl
  have hsl : (s : Int) < (g.parent.length : Int) := by omega
  have hnl : (n : Int) < (g.nodes.length : Int) := by omega
  clear G hs hn
  rw [hsn] at hc
  clear hsn
  generalize placeG g n gives = V at *
  generalize g.nodes[n]!.kind = k at *
  generalize g.nodes[n]!.arg = ar at *
  generalize g.nodes[n]!.prog.length = pl at *
  generalize g.parent[s]! = ps at *
  generalize g.parent.length = n1 at *
  generalize g.bound.length = n2 at *
  generalize g.nodes.length = n3 at *
  generalize g.edges.length = n4 at *
  have HC := Lib.hid hc
  clear hc
  have HB0 := Lib.hid ((Below.refl w.heap.size w).alloc (Nat.le_refl _) (.cells #[.slice (some ⟨b2, off2, none⟩) n1 c1, .slice p2 n2 c2, .slice (some ⟨b, off, none⟩) n3 c3, .slice p4 n4 c4] 26))
  obtain ⟨e0, e1, e2, e3⟩ := HC.out _ HB0.out
  have e4 := HP.out _ HB0.out
  have hb1 : b < (w.alloc (.cells #[.slice (some ⟨b2, off2, none⟩) n1 c1, .slice p2 n2 c2, .slice (some ⟨b, off, none⟩) n3 c3, .slice p4 n4 c4] 26)).heap.size := World.block_lt_of_cell? _ _ e0
  have hb0 : b < w.heap.size := World.block_lt_of_cell? _ _ (HC.out _ (Below.refl _ _)).1
  have hb2 : b2 < w.heap.size := World.block_lt_of_cell? _ _ (HP.out _ (Below.refl _ _))
  have h10 : k = 10 ∨ k = 11 ∨ ((k == 10) = false ∧ (k == 11) = false) := by
    by_cases q : k = 10
    · exact .inl q
    · by_cases r : k = 11
      · exact .inr (.inl r)
      · exact .inr (.inr ⟨by simpa using q, by simpa using r⟩)
  clear HC HP HB0
  rcases h10 with rfl | rfl | ⟨k1, k2⟩
  · cases gives
    all_goals
      go_enter Try.func24, Try.ntmps24
      go_wp2
      go_returns
      refine ⟨ret_int ?_, by go_grown⟩
      rw [HV.out]
      simp
  · cases gives
    all_goals
      go_enter Try.func24, Try.ntmps24
      go_wp2
      go_returns
      refine ⟨ret_int ?_, by go_grown⟩
      rw [HV.out]
      simp
  · have HV2 : Hid (V = (s : Int)) := by
      show V = _
      rw [HV.out, if_neg]
      intro q
      rcases q with q | q
      · rw [q.1] at k1; cases k1
      · rw [q.1] at k2; cases k2
    clear HV
    go_enter Try.func24, Try.ntmps24
    go_wp2
    all_goals go_returns
    all_goals refine ⟨ret_int ?_, by go_grown⟩
    all_goals exact HV2.out.symm
/-- at which depth an operator takes, or gives -/
def levelG (g : GV) (n : Nat) (gives : Bool) : Nat := (chainL g.parent 10 (placeG g n gives)).length
def scopeOk (g : GV) (n : Nat) : Prop := 0 ≤ g.nodes[n]!.scope ∧ g.nodes[n]!.scope < (g.parent.length : Int)
set_option maxRecDepth 100000 in
set_option maxHeartbeats 8000000 in
theorem rlevel_any (g : GV) (v : Value) (n : Nat) (gives : Bool) (w : World) (h : IsG w v g) (hl : g.parent.length ≤ 900000) (hn : n < g.nodes.length) (hs : scopeOk g n) :
    Calls Try.prog 12 #[v, .int .i64 (n : Int), .bool gives] w (Ret (.int .i64 (levelG g n gives : Int)) w) := by
  have HP := Lib.hid (fun W (hW : Below w.heap.size w W) => rplace_any g v n gives W (h.below hW) hn hs)
  have HC := Lib.hid (fun s W (hW : Below w.heap.size w W) => rchain_any g v s W (h.below hW) hl)
  obtain ⟨p1, c1, p2, c2, p3, c3, p4, c4, rfl, G⟩ := h.go
  clear h G hs
  unfold levelG
  generalize placeG g n gives = s at *
  have HC2 := Lib.hid (HC.out s)
  clear HC
  generalize chainL g.parent 10 s = L at *
  have hnl : (n : Int) < (g.nodes.length : Int) := by omega
  generalize g.parent.length = n1 at *
  generalize g.bound.length = n2 at *
  generalize g.nodes.length = n3 at *
  generalize g.edges.length = n4 at *
  have HB0 := Lib.hid ((Below.refl w.heap.size w).alloc (Nat.le_refl _) (.cells #[.slice p1 n1 c1, .slice p2 n2 c2, .slice p3 n3 c3, .slice p4 n4 c4] 26))
  have HX0 : Hid (rowOf (w.alloc (.cells #[.slice p1 n1 c1, .slice p2 n2 c2, .slice p3 n3 c3, .slice p4 n4 c4] 26)) w.heap.size = some #[.slice p1 n1 c1, .slice p2 n2 c2, .slice p3 n3 c3, .slice p4 n4 c4]) := row_new rfl
  go_enter Try.func12, Try.ntmps12
  go_wp2_with fail
  refine gen_world (fun W2 => Hid (Below w.heap.size w W2) ∧ Hid (rowOf W2 w.heap.size = some #[.slice p1 n1 c1, .slice p2 n2 c2, .slice p3 n3 c3, .slice p4 n4 c4])) ⟨HB0, HX0⟩ ?_
  rintro w1 ⟨HB, HX⟩
  clear HB0 HX0
  have HK : Hid (∀ W, Below w1.heap.size w1 W → W.cell? ⟨w.heap.size, 0, none⟩ = some (.slice p1 n1 c1) ∧ W.cell? ⟨w.heap.size, 1, none⟩ = some (.slice p2 n2 c2) ∧ W.cell? ⟨w.heap.size, 2, none⟩ = some (.slice p3 n3 c3) ∧ W.cell? ⟨w.heap.size, 3, none⟩ = some (.slice p4 n4 c4)) := fun W hW => by
    have r := rowOf_below HX.out hW (rowOf_lt HX.out)
    exact ⟨rowOf_cell r 0, rowOf_cell r 1, rowOf_cell r 2, rowOf_cell r 3⟩
  have HP1 := Lib.hid (fun W (hW : Below w1.heap.size w1 W) => HP.out W (bstep HB.out hW HB.out.size))
  have HC1 := Lib.hid (fun W (hW : Below w1.heap.size w1 W) => HC2.out W (bstep HB.out hW HB.out.size))
  clear HP HC2 HX
  obtain ⟨e0, e1, e2, e3⟩ := HK.out w1 (Below.refl _ _)
  have hc : Below w1.heap.size w1 w1.drew := (Below.refl _ _).drew
  go_region_held_law (fun w' => w'.cell? ⟨w.heap.size, 0, none⟩ = some (.slice p1 n1 c1) ∧ w'.cell? ⟨w.heap.size, 1, none⟩ = some (.slice p2 n2 c2) ∧ w'.cell? ⟨w.heap.size, 2, none⟩ = some (.slice p3 n3 c3) ∧ w'.cell? ⟨w.heap.size, 3, none⟩ = some (.slice p4 n4 c4)) (first | exact HK.out _ hc | go_keep) (first
    | (go_at_call 23; (with_reducible refine Calls.mono (HC1.out _ hc) ?_); rintro e wn ⟨vn, rfl, hO, hb⟩; obtain ⟨pn, cn, hvn⟩ := hO.is.slice; subst hvn; clear hO; replace hc := bcall hc hb hc.size; clear hb)
    | (go_at_call 24; (with_reducible refine Calls.mono (HP1.out _ hc) ?_); rintro e wn ⟨rfl, hb⟩; replace hc := bcall hc hb hc.size; clear hb))
  all_goals
    try simp only [List.getElem_toArray, List.getElem_cons_succ, List.getElem_cons_zero, Act.put, List.setIfInBounds_toArray, List.set_cons_zero, List.set_cons_succ]
    go_wp2
    go_returns
    exact ⟨rfl, HB.out.trans (hc.mono HB.out.size)⟩
end Go.Proofs.Ytacmdkbmakfdkaa
/- the document's Step of an edge -/
namespace Go.Proofs.Ytacmdkbmakfdkaa
open Go.RowKit
set_option linter.unusedVariables false
set_option linter.unusedSimpArgs false
attribute [local go_sem ↓] loadH loadT storeH storeT
attribute [local simp] size_setRow
attribute [local go_sem] rowAt_head rowOf_alloc_at rowOf_alloc_past rowOf_drew rowOf_drewN rowOf_setRow_same rowOf_setRow_other rowOf_setCell_same rowOf_setCell_other size_setRow setRow_drew setRow_alloc_at setRow_alloc_past one_int one_bool cell_setRow_same cell_setRow_other frozen_setRow_same frozen_setRow_other

/-- what leads out of an operator of a kind that takes at a depth -/
def stepH (d kind : Int) : HV :=
  if kind = 10 then ⟨d, d, 1, 0, 0, 0, 0, 0, 0, 0, 0⟩ else if kind = 11 then ⟨d, d - 1, 0, 0, 0, 0, 0, 0, 0, 0, 0⟩
  else if kind = 12 then ⟨d, d, 0, if d = 1 then 1 else 0, if d = 2 then 1 else 0, if d = 3 then 1 else 0, if d = 4 then 1 else 0, 0, 0, 0, 0⟩
  else ⟨d, d, 0, 0, 0, 0, 0, 0, 0, 0, 0⟩
abbrev GE.val (e : GE) : Value := .agg #[.int .i64 e.src, .int .i64 e.dst, .int .i64 e.port, .bool e.ex]
def stepG (g : GV) (e : GE) : HV := stepH (levelG g e.src.toNat false) g.nodes[e.src.toNat]!.kind
set_option maxRecDepth 100000 in
set_option maxHeartbeats 16000000 in
theorem rstep_any (g : GV) (v : Value) (e : GE) (w : World) (h : IsG w v g) (hl : g.parent.length ≤ 900000) (h0 : 0 ≤ e.src) (hn : e.src.toNat < g.nodes.length) (hs : scopeOk g e.src.toNat) (hd : 1 ≤ levelG g e.src.toNat false ∧ levelG g e.src.toNat false ≤ 4) :
    Calls Try.prog 15 #[v, e.val] w (Ret (stepG g e).val w) := by
  have HLv := Lib.hid (fun W (hW : Below w.heap.size w W) => rlevel_any g v e.src.toNat false W (h.below hW) hl hn hs)
  obtain ⟨p1, c1, p2, c2, p3, c3, p4, c4, rfl, G⟩ := h.go
  obtain ⟨src, dst, port, ex⟩ := e
  obtain ⟨n, rfl⟩ : ∃ n : Nat, src = (n : Int) := ⟨src.toNat, by simp only at h0; omega⟩
  simp only [Int.toNat_natCast] at hn hd HLv
  obtain ⟨b, off, p, c, rfl, _, hc⟩ := G.nod n hn
  unfold stepG
  simp only [Int.toNat_natCast]
  clear h G hs
  generalize levelG g n false = L at *
  have hnl : (n : Int) < (g.nodes.length : Int) := by omega
  have HC := Lib.hid (fun W hW => (hc W hW).1)
  clear hc h0
  generalize g.nodes[n]!.kind = k at *
  generalize g.parent.length = n1 at *
  generalize g.bound.length = n2 at *
  generalize g.nodes.length = n3 at *
  generalize g.edges.length = n4 at *
  have HT := Lib.hid (T0.start (w := w) #[.slice p1 n1 c1, .slice p2 n2 c2, .slice (some ⟨b, off, none⟩) n3 c3, .slice p4 n4 c4] #[.int .i64 (n : Int), .int .i64 dst, .int .i64 port, .bool ex] (hvRow HV.zero) 26 42 46)
  generalize hV : stepH (L : Int) k = V
  have HVa := Lib.hid hV
  clear hV
  go_enter Try.func15, Try.ntmps15
  generalize hQ : bodyPost _ _ _ = Q0
  have HQ := Lib.hid hQ
  clear hQ
  go_wp2_with fail
  refine (HLv.out _ HT.out.B).mono ?_
  rintro e w2 ⟨rfl, hb⟩
  have HT2 := Lib.hid (HT.out.below hb)
  clear hb HT HLv
  have N_p := HT2.out.a; have L_p := rowOf_lt N_p; have D_p := Nat.ne_of_lt L_p
  have N_q := HT2.out.b; have L_q := rowOf_lt N_q; have D_q := Nat.ne_of_lt L_q
  have N_r := HT2.out.r; have L_r := rowOf_lt N_r; have D_r := Nat.ne_of_lt L_r
  have p_2 : w2.cell? ⟨w.heap.size, 2, none⟩ = some (.slice (some ⟨b, off, none⟩) n3 c3) := rowOf_cell N_p 2
  have q_0 : w2.cell? ⟨w.heap.size + 1, 0, none⟩ = some (.int .i64 (n : Int)) := rowOf_cell N_q 0
  have e0 := HC.out _ HT2.out.B
  have hb0 : b < w2.heap.size := World.block_lt_of_cell? _ _ e0
  have hbn := Nat.ne_of_lt hb0
  have hcase : k = 10 ∨ k = 11 ∨ k = 12 ∨ ((k == 10) = false ∧ (k == 11) = false ∧ (k == 12) = false) := by
    by_cases h1 : k = 10
    · exact .inl h1
    · by_cases h2 : k = 11
      · exact .inr (.inl h2)
      · by_cases h3 : k = 12
        · exact .inr (.inr (.inl h3))
        · exact .inr (.inr (.inr ⟨by simpa using h1, by simpa using h2, by simpa using h3⟩))
  have hLc : L = 1 ∨ L = 2 ∨ L = 3 ∨ L = 4 := by omega
  clear HC hd
  rcases hcase with rfl | rfl | rfl | ⟨k1, k2, k3⟩
  · obtain rfl : V = ⟨(L : Int), L, 1, 0, 0, 0, 0, 0, 0, 0, 0⟩ := HVa.out.symm
    go_wp2
    rw [← HQ.out]
    exact bodyPost_ret (v := (HV.val ⟨(L : Int), L, 1, 0, 0, 0, 0, 0, 0, 0, 0⟩)) (by simp [results, Try.results15, go_sem, N_r, L_r, D_r]) rfl ⟨rfl, by first | exact ((HT2.out.setR _).box _ _).B | exact (((HT2.out.box _ _).set _ _ rfl).setR _).B | exact ((HT2.out.box _ _).setR _).B⟩
  · obtain rfl : V = ⟨(L : Int), (L : Int) - 1, 0, 0, 0, 0, 0, 0, 0, 0, 0⟩ := HVa.out.symm
    have hwr : IntKind.i64.wrap ((L : Int) - 1) = (L : Int) - 1 := by rw [IntKind.wrap_i64]; omega
    go_wp2
    rw [← HQ.out]
    exact bodyPost_ret (v := (HV.val ⟨(L : Int), (L : Int) - 1, 0, 0, 0, 0, 0, 0, 0, 0, 0⟩)) (by simp [results, Try.results15, go_sem, N_r, L_r, D_r]) rfl ⟨rfl, by first | exact ((HT2.out.setR _).box _ _).B | exact (((HT2.out.box _ _).set _ _ rfl).setR _).B | exact ((HT2.out.box _ _).setR _).B⟩
  · rcases hLc with rfl | rfl | rfl | rfl
    · obtain rfl : V = ⟨1, 1, 0, 1, 0, 0, 0, 0, 0, 0, 0⟩ := HVa.out.symm
      go_wp2
      rw [← HQ.out]
      exact bodyPost_ret (v := (HV.val ⟨1, 1, 0, 1, 0, 0, 0, 0, 0, 0, 0⟩)) (by simp [results, Try.results15, go_sem, N_r, L_r, D_r]) rfl ⟨rfl, by first | exact ((HT2.out.setR _).box _ _).B | exact (((HT2.out.box _ _).set _ _ rfl).setR _).B | exact ((HT2.out.box _ _).setR _).B⟩
    · obtain rfl : V = ⟨2, 2, 0, 0, 1, 0, 0, 0, 0, 0, 0⟩ := HVa.out.symm
      go_wp2
      rw [← HQ.out]
      exact bodyPost_ret (v := (HV.val ⟨2, 2, 0, 0, 1, 0, 0, 0, 0, 0, 0⟩)) (by simp [results, Try.results15, go_sem, N_r, L_r, D_r]) rfl ⟨rfl, by first | exact ((HT2.out.setR _).box _ _).B | exact (((HT2.out.box _ _).set _ _ rfl).setR _).B | exact ((HT2.out.box _ _).setR _).B⟩
    · obtain rfl : V = ⟨3, 3, 0, 0, 0, 1, 0, 0, 0, 0, 0⟩ := HVa.out.symm
      go_wp2
      rw [← HQ.out]
      exact bodyPost_ret (v := (HV.val ⟨3, 3, 0, 0, 0, 1, 0, 0, 0, 0, 0⟩)) (by simp [results, Try.results15, go_sem, N_r, L_r, D_r]) rfl ⟨rfl, by first | exact ((HT2.out.setR _).box _ _).B | exact (((HT2.out.box _ _).set _ _ rfl).setR _).B | exact ((HT2.out.box _ _).setR _).B⟩
    · obtain rfl : V = ⟨4, 4, 0, 0, 0, 0, 1, 0, 0, 0, 0⟩ := HVa.out.symm
      go_wp2
      rw [← HQ.out]
      exact bodyPost_ret (v := (HV.val ⟨4, 4, 0, 0, 0, 0, 1, 0, 0, 0, 0⟩)) (by simp [results, Try.results15, go_sem, N_r, L_r, D_r]) rfl ⟨rfl, by first | exact ((HT2.out.setR _).box _ _).B | exact (((HT2.out.box _ _).set _ _ rfl).setR _).B | exact ((HT2.out.box _ _).setR _).B⟩
  · obtain rfl : V = ⟨(L : Int), L, 0, 0, 0, 0, 0, 0, 0, 0, 0⟩ := by
      rw [← HVa.out]
      unfold stepH
      rw [if_neg (by simpa using k1), if_neg (by simpa using k2), if_neg (by simpa using k3)]
    go_wp2
    rw [← HQ.out]
    exact bodyPost_ret (v := (HV.val ⟨(L : Int), L, 0, 0, 0, 0, 0, 0, 0, 0, 0⟩)) (by simp [results, Try.results15, go_sem, N_r, L_r, D_r]) rfl ⟨rfl, by first | exact ((HT2.out.setR _).box _ _).B | exact (((HT2.out.box _ _).set _ _ rfl).setR _).B | exact ((HT2.out.box _ _).setR _).B⟩
end Go.Proofs.Ytacmdkbmakfdkaa
/- plain: graphs that may run, as nets of steps; how long lists of lowest steps may be -/
namespace Go.Proofs.Ytacmdkbmakfdkaa
open Go.RowKit
set_option linter.unusedVariables false
set_option linter.unusedSimpArgs false

/-- the number that a right step with small numbers has among all -/
def cH (x : HV) (j : Nat) : Nat := if (j : Int) < x.k + x.t then (x.at j).toNat else 0
def codeH (x : HV) : Nat := ((((x.k.toNat * 5 + x.t.toNat) * 130 + cH x 0) * 130 + cH x 1) * 130 + cH x 2) * 130 + cH x 3
theorem cH_lt {x : HV} (h : ∀ j : Nat, (j : Int) < x.k + x.t → x.at j ≤ 129) (j : Nat) : cH x j < 130 := by
  unfold cH
  split
  · rename_i hj
    have := h j hj
    omega
  · omega
theorem codeH_lt {x : HV} (hr : x.rightB = true) (h : ∀ j : Nat, (j : Int) < x.k + x.t → x.at j ≤ 129) : codeH x < 7140250000 := by
  have s := right_size (shape_of hr)
  have a0 := cH_lt h 0; have a1 := cH_lt h 1; have a2 := cH_lt h 2; have a3 := cH_lt h 3
  have k4 : x.k.toNat ≤ 4 := by omega
  have t4 : x.t.toNat ≤ 4 := by omega
  unfold codeH
  omega
theorem codeH_inj {x y : HV} (hx : x.rightB = true) (hy : y.rightB = true) (hf : x.f = y.f) (bx : ∀ j : Nat, (j : Int) < x.k + x.t → x.at j ≤ 129) (by' : ∀ j : Nat, (j : Int) < y.k + y.t → y.at j ≤ 129) (h : codeH x = codeH y) : x = y := by
  have sx := right_size (shape_of hx); have sy := right_size (shape_of hy)
  have a0 := cH_lt bx 0; have a1 := cH_lt bx 1; have a2 := cH_lt bx 2; have a3 := cH_lt bx 3
  have b0 := cH_lt by' 0; have b1 := cH_lt by' 1; have b2 := cH_lt by' 2; have b3 := cH_lt by' 3
  have t4 : x.t.toNat ≤ 4 := by omega
  have u4 : y.t.toNat ≤ 4 := by omega
  unfold codeH at h
  have e3 : cH x 3 = cH y 3 := by omega
  have e2 : cH x 2 = cH y 2 := by omega
  have e1 : cH x 1 = cH y 1 := by omega
  have e0 : cH x 0 = cH y 0 := by omega
  have ek : x.k.toNat = y.k.toNat := by omega
  have et : x.t.toNat = y.t.toNat := by omega
  have hk : x.k = y.k := by omega
  have ht : x.t = y.t := by omega
  have key : ∀ j : Nat, cH x j = cH y j → (j : Int) < x.k + x.t → x.at j = y.at j := fun j e hj => by
    unfold cH at e
    rw [if_pos hj, if_pos (by omega)] at e
    have := at_bound (shape_of hx) j; have := at_bound (shape_of hy) j
    omega
  exact hv_ext (shape_of hx) (shape_of hy) hf hk ht (key 0 e0) (key 1 e1) (key 2 e2) (key 3 e3)
theorem few_steps {l : List HV} {f : Int} (hn : l.Nodup) (h : ∀ x ∈ l, x.rightB = true ∧ x.f = f ∧ ∀ j : Nat, (j : Int) < x.k + x.t → x.at j ≤ 129) : l.length ≤ 7140250000 := by
  have hm : (l.map codeH).Nodup := by
    unfold List.Nodup
    rw [List.pairwise_map]
    refine List.Pairwise.imp_of_mem (R := fun a b => a ≠ b) ?_ hn
    intro a b ha hb hab e
    exact hab (codeH_inj (h a ha).1 (h b hb).1 ((h a ha).2.1.trans (h b hb).2.1.symm) (h a ha).2.2 (h b hb).2.2 e)
  have := nodup_len (m := List.range 7140250000) hm (fun c hc => by
    obtain ⟨x, hx, rfl⟩ := List.mem_map.1 hc
    exact List.mem_range.2 (codeH_lt (h x hx).1 (h x hx).2.2))
  rw [List.length_map, List.length_range] at this
  exact this
/-- the lists behind few rounds are not too long -/
theorem Rounds.few {E : List NE} {D : Nat → Int} {N n : Nat} {h0 : HV} (F : Fine E D N) (h0r : h0.rightB = true) (h0d : h0.k + h0.t = D n) (h0z : ∀ j : Nat, (j : Int) < h0.k + h0.t → h0.at j ≤ 0) {r : Nat} (hr : r ≤ 129) {row : List (List HV)} (R : Rounds E D N n h0 r row) (m : Nat) : List.length row[m]! ≤ 7140250000 := by
  by_cases hm : m < N
  · have L := R.least m hm
    refine few_steps (f := h0.f) L.nodup fun x hx => ?_
    obtain ⟨es, hE, hl, q⟩ := L.mem x hx
    have o := run_ok F hE h0r h0d q
    have b := run_bound F (c := 0) hE h0r h0d (Int.le_refl _) h0z q
    exact ⟨o.1, o.2.2, fun j hj => by have := b j hj; omega⟩
  · rw [getElem!_neg row m (by rw [R.len]; exact hm)]
    exact Nat.zero_le _

/-- a graph's edges as steps -/
def netE (g : GV) : List NE := g.edges.map fun e => ⟨e.src.toNat, e.dst.toNat, stepG g e⟩
def depthG (g : GV) (v : Nat) : Int := (levelG g v false : Int)
def sameG (g : GV) (n : Nat) : HV := ⟨depthG g n, depthG g n, 0, 0, 0, 0, 0, 0, 0, 0, 0⟩
/-- what a graph that may run has, as far as ways ask for it -/
structure Runs (g : GV) : Prop where
  nodes : g.nodes.length ≤ 32
  edges : g.edges.length ≤ 64
  parent : g.parent.length ≤ 8
  scope : ∀ v, v < g.nodes.length → scopeOk g v
  ends : ∀ i, i < g.edges.length → 0 ≤ g.edges[i]!.src ∧ g.edges[i]!.src.toNat < g.nodes.length ∧ 0 ≤ g.edges[i]!.dst ∧ g.edges[i]!.dst.toNat < g.nodes.length
  depth : ∀ v, v < g.nodes.length → 1 ≤ levelG g v false ∧ levelG g v false ≤ 4
  fine : Fine (netE g) (depthG g) g.nodes.length
theorem sameG_right {g : GV} (R : Runs g) {n : Nat} (hn : n < g.nodes.length) : (sameG g n).rightB = true := by
  have d := R.depth n hn
  have key : ∀ d : Int, 1 ≤ d → d ≤ 4 → HV.right ⟨d, d, 0, 0, 0, 0, 0, 0, 0, 0, 0⟩ := fun d h1 h4 => by
    unfold HV.right HV.shape fitsP
    simp
    omega
  exact decide_eq_true (key _ (by unfold depthG; omega) (by unfold depthG; omega))
theorem sameG_gives (g : GV) (n : Nat) : (sameG g n).k + (sameG g n).t = depthG g n := by show depthG g n + 0 = _; omega
theorem sameG_zero (g : GV) (n : Nat) (j : Nat) (hj : (j : Int) < (sameG g n).k + (sameG g n).t) : (sameG g n).at j ≤ 0 := by
  have h : (j : Int) < (sameG g n).k := by
    have := sameG_gives g n
    have : (sameG g n).k = depthG g n := rfl
    omega
  unfold HV.at
  rw [if_pos h]
  unfold HV.add
  simp only [sameG]
  repeat' split
  all_goals omega
end Go.Proofs.Ytacmdkbmakfdkaa
