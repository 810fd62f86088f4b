/- the document's Le on steps, by their parts: the walk -/
import Derived.Test.YtjaahmgokiobjaaGreatG07
import Derived.Test.YtjaahmgokiobjaaGreatG04
import Derived.Test.YtjaahmgokiobjaaGreatG03
import Derived.Test.YtjaahmgokiobjaaGreatG06
import Derived.Test.YtjaahmgokiobjaaGreatG05
namespace Go.Proofs.YtjaahmgokiobjaaGreat
open Go.RowKit
set_option linter.unusedVariables false
set_option linter.unusedSimpArgs false
attribute [local go_sem ↓] loadH loadT storeH storeT
attribute [local simp] size_setRow
attribute [local go_sem] rowAt_head rowOf_alloc_at rowOf_alloc_past rowOf_drew rowOf_drewN rowOf_setRow_same rowOf_setRow_other rowOf_setCell_same rowOf_setCell_other size_setRow setRow_drew setRow_alloc_at setRow_alloc_past one_int one_bool cell_setRow_same cell_setRow_other frozen_setRow_same frozen_setRow_other

theorem atP {w : World} {b off : Nat} {xs : List PV} (h : RP.Row w b off xs) (j : Nat) (hj : j < xs.length) :
    w.cell? ⟨b, off + j * 2, none⟩ = some (.int .i64 xs[j]!.o) ∧ w.cell? ⟨b, off + j * 2 + 1, none⟩ = some (.int .i64 xs[j]!.x) :=
  ⟨h j hj 0 _ rfl, h j hj 1 _ rfl⟩
theorem drop_consP {xs : List PV} {k : Nat} (h : k < xs.length) : xs.drop k = xs[k]! :: xs.drop (k + 1) := by
  rw [getElem!_pos xs k h]
  exact List.drop_eq_getElem_cons h
theorem partsP_len (h : HV) : (partsP h).length ≤ 8 := by
  unfold partsP keptP tailP
  simp only [List.length_append, List.length_take, List.length_cons, List.length_nil]
  omega
theorem partsP_num {h : HV} (r : h.rightB = true) : ((partsP h).length : Int) = h.k + h.t ∧ 1 ≤ (partsP h).length ∧ (partsP h).length ≤ 4 := by
  have q : h.right := of_decide_eq_true r
  obtain ⟨⟨s1, s2, s3, s4, s5, s6⟩, g1, g2, _⟩ := q
  unfold partsP keptP tailP
  simp only [List.length_append, List.length_take, List.length_cons, List.length_nil]
  omega
def leL : List PV → List PV → Bool
  | x :: xs, y :: ys => (!((decide (0 ≤ x.o) && decide (y.o < 0)) || decide (y.x < x.x))) && leL xs ys
  | _, _ => true
def rleB (a b : HV) : Bool := a.rightB && b.rightB && decide (a.f = b.f) && decide ((partsP a).length = (partsP b).length) && leL (partsP a) (partsP b)

end Go.Proofs.YtjaahmgokiobjaaGreat
/- plain facts of the parts of a step -/
namespace Go.Proofs.YtjaahmgokiobjaaGreat
open Go.RowKit
set_option linter.unusedVariables false
set_option linter.unusedSimpArgs false

theorem min40 : (min (4 : Int) 0).toNat = 0 := rfl
theorem min41 : (min (4 : Int) 1).toNat = 1 := rfl
theorem min42 : (min (4 : Int) 2).toNat = 2 := rfl
theorem min43 : (min (4 : Int) 3).toNat = 3 := rfl
theorem min44 : (min (4 : Int) 4).toNat = 4 := rfl
theorem parts_ok {h : HV} (r : h.rightB = true) : ∀ p ∈ partsP h, (0 ≤ p.x ∧ p.x ≤ 1048576) ∧ -1 ≤ p.o ∧ p.o < h.k ∨ (0 ≤ p.x ∧ p.x ≤ 1048576) ∧ p.o = -1 := by
  have q : h.right := of_decide_eq_true r
  obtain ⟨f, k, t, a0, a1, a2, a3, b0, b1, b2, b3⟩ := h
  obtain ⟨⟨s1, s2, s3, s4, s5, s6⟩, g1, g2, hA, hB⟩ := q
  simp only [fitsP] at s1 s2 s3 s4 s5 s6 g1 g2 hA hB
  clear r
  have hk : k = 0 ∨ k = 1 ∨ k = 2 ∨ k = 3 ∨ k = 4 := by omega
  have hu : t = 0 ∨ t = 1 ∨ t = 2 ∨ t = 3 ∨ t = 4 := by omega
  rcases hk with rfl | rfl | rfl | rfl | rfl <;> rcases hu with rfl | rfl | rfl | rfl | rfl
  all_goals first | (exfalso; omega) | skip
  all_goals
    simp only [partsP, keptP, tailP, min40, min41, min42, min43, min44, List.take_zero, List.take_succ_cons, List.cons_append, List.nil_append, List.forall_mem_cons]
    repeat' constructor
    all_goals first | omega | (intro p hp; simp at hp)
end Go.Proofs.YtjaahmgokiobjaaGreat
/- plain facts: the document's Le, by parts, is leH -/
namespace Go.Proofs.YtjaahmgokiobjaaGreat
open Go.RowKit
set_option linter.unusedVariables false
set_option linter.unusedSimpArgs false

theorem nlt (x y : Int) : decide (x < y) = !decide (y ≤ x) := by
  by_cases h : x < y
  · rw [decide_eq_true h, decide_eq_false (by omega)]; rfl
  · rw [decide_eq_false h, decide_eq_true (by omega)]; rfl
theorem rleB_is (a b : HV) : rleB a b = leH a b := by
  unfold rleB leH
  cases ha : a.rightB
  · rfl
  cases hb : b.rightB
  · simp
  have na := partsP_num ha
  have nb := partsP_num hb
  by_cases hf : a.f = b.f
  · have hfb : (a.f == b.f) = true := by simpa using hf
    rw [decide_eq_true hf, hfb]
    by_cases hl : (partsP a).length = (partsP b).length
    · have hlb : (a.k + a.t == b.k + b.t) = true := by simp; omega
      rw [decide_eq_true hl, hlb]
      simp only [Bool.true_and]
      have qa : a.right := of_decide_eq_true ha
      have qb : b.right := of_decide_eq_true hb
      obtain ⟨f, k, t, a0, a1, a2, a3, b0, b1, b2, b3⟩ := a
      obtain ⟨g, l, u, d0, d1, d2, d3, e0, e1, e2, e3⟩ := b
      obtain ⟨⟨s1, s2, s3, s4, s5, s6⟩, g1, g2, _, _⟩ := qa
      obtain ⟨⟨r1, r2, r3, r4, r5, r6⟩, h1, h2, _, _⟩ := qb
      simp only at s1 s2 s3 s4 s5 s6 g1 g2 r1 r2 r3 r4 r5 r6 h1 h2 na nb
      clear ha hb hfb hlb
      have hkt : k + t = l + u := by omega
      clear na nb hl hf
      have hk : k = 0 ∨ k = 1 ∨ k = 2 ∨ k = 3 ∨ k = 4 := by omega
      have hu : t = 0 ∨ t = 1 ∨ t = 2 ∨ t = 3 ∨ t = 4 := by omega
      have hkl : l = 0 ∨ l = 1 ∨ l = 2 ∨ l = 3 ∨ l = 4 := by omega
      have huu : u = k + t - l := by omega
      subst huu
      rcases hk with rfl | rfl | rfl | rfl | rfl <;> rcases hu with rfl | rfl | rfl | rfl | rfl
      all_goals first | (exfalso; omega) | skip
      all_goals
        rcases hkl with rfl | rfl | rfl | rfl | rfl
        all_goals first | (exfalso; omega) | skip
        all_goals
          simp [partsP, keptP, tailP, leL, leC, HV.at, HV.add, HV.tl, min40, min41, min42, min43, min44, nlt]
    · have hlb : (a.k + a.t == b.k + b.t) = false := by simp; omega
      rw [decide_eq_false hl, hlb]
      rfl
  · have hfb : (a.f == b.f) = false := by simpa using hf
    rw [decide_eq_false hf, hfb]
    rfl
end Go.Proofs.YtjaahmgokiobjaaGreat
/- numbers of 64 bits; instructions (NV), rows of them (RC) -/
namespace Go.Proofs.YtjaahmgokiobjaaGreat
open Go.RowKit
set_option linter.unusedVariables false
set_option linter.unusedSimpArgs false

/-- it has room in 64 bits -/
def inR (x : Int) : Prop := -9223372036854775808 ≤ x ∧ x ≤ 9223372036854775807
instance (x : Int) : Decidable (inR x) := by unfold inR; infer_instance
structure NV where
  op : Int
  n : Int
instance : Inhabited NV := ⟨⟨0, 0⟩⟩
def NV.enc (x : NV) : List Value := [.int .i64 x.op, .int .i64 x.n]
abbrev NV.val (x : NV) : Value := .agg #[.int .i64 x.op, .int .i64 x.n]
def RC : RowKind NV where
  enc := NV.enc
  k := 2
  k0 := by decide
  len := fun _ => rfl
  one := by
    intro c u hu
    simp [NV.enc] at hu
    rcases hu with rfl | rfl <;> rfl
  tE := 112
  tS := 40
  zero := .agg #[.int .i64 0, .int .i64 0]
  bytes := 16
  info := by kernel_rfl
  under := Tryz.underlying40
  zlen := rfl
  byt := by decide
theorem atC7 {w : World} {b off : Nat} {xs : List NV} (h : RC.Row w b off xs) (j : Nat) (hj : j < xs.length) :
    w.cell? ⟨b, off + j * 2, none⟩ = some (.int .i64 xs[j]!.op) ∧ w.cell? ⟨b, off + j * 2 + 1, none⟩ = some (.int .i64 xs[j]!.n) :=
  ⟨h j hj 0 _ rfl, h j hj 1 _ rfl⟩
def NV.ok (len : Nat) (x : NV) : Prop := 1 ≤ x.op ∧ x.op ≤ 16 ∧ ((x.op = 14 ∨ x.op = 15) → 0 ≤ x.n ∧ x.n ≤ (len : Int)) ∧ ((x.op ≠ 1 ∧ x.op ≠ 14 ∧ x.op ≠ 15) → x.n = 0)
instance (len : Nat) (x : NV) : Decidable (x.ok len) := by unfold NV.ok; infer_instance
end Go.Proofs.YtjaahmgokiobjaaGreat
/- rows of ints -/
namespace Go.Proofs.YtjaahmgokiobjaaGreat
open Go.RowKit
set_option linter.unusedVariables false
set_option linter.unusedSimpArgs false

/-- rows of ints -/
def RN : RowKind Int where
  enc := fun x => [.int .i64 x]
  k := 1
  k0 := by decide
  len := fun _ => rfl
  one := by
    intro c u hu
    simp at hu
    subst hu
    rfl
  tE := 3
  tS := 22
  zero := .int .i64 0
  bytes := 8
  info := by kernel_rfl
  under := Tryz.underlying22
  zlen := rfl
  byt := by decide
theorem atN {w : World} {b off : Nat} {xs : List Int} (h : RN.Row w b off xs) (j : Nat) (hj : j < xs.length) : w.cell? ⟨b, off + j, none⟩ = some (.int .i64 xs[j]!) := by
  have := h j hj 0 _ rfl
  rw [show off + j * RN.k + 0 = off + j from by show off + j * 1 + 0 = _; omega] at this
  exact this
end Go.Proofs.YtjaahmgokiobjaaGreat
/- graphs in memory (GV; IsG: a graph that is read); the document's Short -/
namespace Go.Proofs.YtjaahmgokiobjaaGreat
open Go.RowKit
set_option linter.unusedVariables false
set_option linter.unusedSimpArgs false

structure GN where
  kind : Int
  scope : Int
  arg : Int
  prog : List NV
instance : Inhabited GN := ⟨⟨0, 0, 0, []⟩⟩
structure GE where
  src : Int
  dst : Int
  port : Int
  ex : Bool
instance : Inhabited GE := ⟨⟨0, 0, 0, false⟩⟩
structure GV where
  parent : List Int
  bound : List Int
  nodes : List GN
  edges : List GE
instance : Inhabited GV := ⟨⟨[], [], [], []⟩⟩
def RE : RowKind GE where
  enc := fun x => [.int .i64 x.src, .int .i64 x.dst, .int .i64 x.port, .bool x.ex]
  k := 4
  k0 := by decide
  len := fun _ => rfl
  one := by
    intro c u hu
    simp at hu
    rcases hu with rfl | rfl | rfl | rfl <;> rfl
  tE := 44
  tS := 24
  zero := .agg #[.int .i64 0, .int .i64 0, .int .i64 0, .bool false]
  bytes := 32
  info := by kernel_rfl
  under := Tryz.underlying24
  zlen := rfl
  byt := by decide
/-- a node as it lies in its row -/
structure NW where
  kind : Int
  scope : Int
  arg : Int
  p : Option Addr
  n : Nat
  c : Nat
instance : Inhabited NW := ⟨⟨0, 0, 0, none, 0, 0⟩⟩
def RW : RowKind NW where
  enc := fun x => [.int .i64 x.kind, .int .i64 x.scope, .int .i64 x.arg, .slice x.p x.n x.c]
  k := 4
  k0 := by decide
  len := fun _ => rfl
  one := by
    intro c u hu
    simp at hu
    rcases hu with rfl | rfl | rfl | rfl <;> rfl
  tE := 42
  tS := 23
  zero := .agg #[.int .i64 0, .int .i64 0, .int .i64 0, .slice none 0 0]
  bytes := 48
  info := by kernel_rfl
  under := Tryz.underlying23
  zlen := rfl
  byt := by decide
theorem atE {w : World} {b off : Nat} {xs : List GE} (h : RE.Row w b off xs) (j : Nat) (hj : j < xs.length) :
    w.cell? ⟨b, off + j * 4, none⟩ = some (.int .i64 xs[j]!.src) ∧ w.cell? ⟨b, off + j * 4 + 1, none⟩ = some (.int .i64 xs[j]!.dst) ∧ w.cell? ⟨b, off + j * 4 + 2, none⟩ = some (.int .i64 xs[j]!.port) ∧ w.cell? ⟨b, off + j * 4 + 3, none⟩ = some (.bool xs[j]!.ex) :=
  ⟨h j hj 0 _ rfl, h j hj 1 _ rfl, h j hj 2 _ rfl, h j hj 3 _ rfl⟩
theorem atW {w : World} {b off : Nat} {xs : List NW} (h : RW.Row w b off xs) (j : Nat) (hj : j < xs.length) :
    w.cell? ⟨b, off + j * 4, none⟩ = some (.int .i64 xs[j]!.kind) ∧ w.cell? ⟨b, off + j * 4 + 1, none⟩ = some (.int .i64 xs[j]!.scope) ∧ w.cell? ⟨b, off + j * 4 + 2, none⟩ = some (.int .i64 xs[j]!.arg) ∧ w.cell? ⟨b, off + j * 4 + 3, none⟩ = some (.slice xs[j]!.p xs[j]!.n xs[j]!.c) :=
  ⟨h j hj 0 _ rfl, h j hj 1 _ rfl, h j hj 2 _ rfl, h j hj 3 _ rfl⟩
/-- where the slice's first cell lies, if it has one -/
theorem RowKind.Is.opened {α : Type} [Inhabited α] {R : RowKind α} {w : World} {v : Value} {xs : List α} (h : R.Is w v xs) : ∃ p c, v = .slice p xs.length c ∧ ∀ j, j < xs.length → ∃ b off, p = some ⟨b, off, none⟩ ∧ b < w.heap.size ∧ R.Row w b off xs := by
  rcases h with ⟨rfl, p, cap, rfl, _⟩ | ⟨h0, b, off, cap, rfl, hb, hr⟩
  · exact ⟨p, cap, rfl, fun j hj => absurd hj (by simp)⟩
  · exact ⟨_, cap, rfl, fun j _ => ⟨b, off, rfl, hb, hr⟩⟩
/-- this raw node is that node -/
def isN (w : World) (x : NW) (g : GN) : Prop := x.kind = g.kind ∧ x.scope = g.scope ∧ x.arg = g.arg ∧ RC.Is w (.slice x.p x.n x.c) g.prog
theorem isN.below {w w' : World} {x : NW} {g : GN} (h : isN w x g) (hb : Below w.heap.size w w') : isN w' x g := ⟨h.1, h.2.1, h.2.2.1, h.2.2.2.below hb⟩
def areN (w : World) (xs : List NW) (ns : List GN) : Prop := xs.length = ns.length ∧ ∀ i, i < ns.length → isN w xs[i]! ns[i]!
theorem areN.below {w w' : World} {xs : List NW} {ns : List GN} (h : areN w xs ns) (hb : Below w.heap.size w w') : areN w' xs ns := ⟨h.1, fun i hi => (h.2 i hi).below hb⟩
/-- v is a slice of these nodes -/
def IsNs (w : World) (v : Value) (ns : List GN) : Prop := ∃ xs : List NW, RW.Is w v xs ∧ areN w xs ns
theorem IsNs.below {w w' : World} {v : Value} {ns : List GN} (h : IsNs w v ns) (hb : Below w.heap.size w w') : IsNs w' v ns := by
  obtain ⟨xs, h1, h2⟩ := h
  exact ⟨xs, h1.below hb, h2.below hb⟩
/-- v is this graph -/
def IsG (w : World) (v : Value) (g : GV) : Prop := ∃ pv bv nv ev, v = .agg #[pv, bv, nv, ev] ∧ RN.Is w pv g.parent ∧ RN.Is w bv g.bound ∧ IsNs w nv g.nodes ∧ RE.Is w ev g.edges
theorem IsG.below {w w' : World} {v : Value} {g : GV} (h : IsG w v g) (hb : Below w.heap.size w w') : IsG w' v g := by
  obtain ⟨pv, bv, nv, ev, e, h1, h2, h3, h4⟩ := h
  exact ⟨pv, bv, nv, ev, e, h1.below hb, h2.below hb, h3.below hb, h4.below hb⟩
theorem isN.len {w : World} {x : NW} {g : GN} (h : isN w x g) : x.n = g.prog.length := by
  obtain ⟨p, c, e⟩ := h.2.2.2.slice
  simp only [Value.slice.injEq] at e
  exact e.2.1
def shortL (ns : List GN) : Bool := ns.all fun x => decide (x.prog.length ≤ 100)
def shortG (g : GV) : Bool := decide (g.parent.length ≤ 20) && (decide (g.bound.length ≤ 20) && (decide (g.nodes.length ≤ 60) && (decide (g.edges.length ≤ 100) && shortL g.nodes)))
theorem all_dropA {α : Type} [Inhabited α] (f : α → Bool) {p : List α} {k : Nat} (h : k < p.length) : (p.drop k).all f = (f p[k]! && (p.drop (k + 1)).all f) := by
  rw [List.drop_eq_getElem_cons h, List.all_cons, getElem!_pos p k h]
theorem shortG_iff (g : GV) : shortG g = true ↔ g.parent.length ≤ 20 ∧ g.bound.length ≤ 20 ∧ g.nodes.length ≤ 60 ∧ g.edges.length ≤ 100 ∧ ∀ x ∈ g.nodes, x.prog.length ≤ 100 := by
  unfold shortG shortL
  simp only [Bool.and_eq_true, decide_eq_true_eq, List.all_eq_true]
set_option maxRecDepth 100000 in
set_option maxHeartbeats 8000000 in
theorem rshort_any (g : GV) (v : Value) (w : World) (h : IsG w v g) : Calls Tryz.prog 12 #[v] w (Ret (.bool (shortG g)) w) := by
  obtain ⟨pv, bv, nv, ev, rfl, h1, h2, ⟨xs, h3, h3n, h3a⟩, h4⟩ := h
  obtain ⟨p1, c1, rfl⟩ := h1.slice
  obtain ⟨p2, c2, rfl⟩ := h2.slice
  obtain ⟨p4, c4, rfl⟩ := h4.slice
  have h3' := h3
  obtain ⟨p3, c3, rfl, hop⟩ := h3.opened
  clear h1 h2 h4 h3
  have hrow : Hid (∀ (W : World), Below w.heap.size w W → ∀ j, j < g.nodes.length → ∃ b off, p3 = some ⟨b, off, none⟩ ∧ ∃ p' c', W.cell? ⟨b, off + j * 4 + 3, none⟩ = some (.slice p' g.nodes[j]!.prog.length c')) := fun W hW j hj => by
    obtain ⟨b, off, e, hb, hr⟩ := hop j (by omega)
    have := (atW (hr.below hW hb) j (by omega)).2.2.2
    rw [(h3a j hj).len] at this
    exact ⟨b, off, e, _, _, this⟩
  have HStep := Lib.hid (fun j (hj : j < g.nodes.length) => all_dropA (fun x : GN => decide (x.prog.length ≤ 100)) hj)
  have hst : (g.nodes.drop 0).all (fun x : GN => decide (x.prog.length ≤ 100)) = shortL g.nodes := rfl
  have hend : (g.nodes.drop g.nodes.length).all (fun x : GN => decide (x.prog.length ≤ 100)) = true := by rw [List.drop_length]; rfl
  have HSt := Lib.hid hst; have HEnd := Lib.hid hend
  have HB0 := Lib.hid ((Below.refl w.heap.size w).alloc (Nat.le_refl _) (.cells #[.slice p1 g.parent.length c1, .slice p2 g.bound.length c2, .slice p3 xs.length c3, .slice p4 g.edges.length c4] 26))
  have HX : Hid (rowOf (w.alloc (.cells #[.slice p1 g.parent.length c1, .slice p2 g.bound.length c2, .slice p3 xs.length c3, .slice p4 g.edges.length c4] 26)) w.heap.size = some #[.slice p1 g.parent.length c1, .slice p2 g.bound.length c2, .slice p3 xs.length c3, .slice p4 g.edges.length c4]) := rowOf_alloc_at _ _ _ rfl
  unfold shortG
  rw [h3n] at HB0 HX ⊢
  clear h3' h3a hst hend h3n hop
  generalize hL : shortL g.nodes = res at *
  generalize hN : g.nodes.length = n3 at *
  have HN := Lib.hid hN
  clear hN hL
  generalize g.parent.length = n1 at *
  generalize g.bound.length = n2 at *
  generalize g.edges.length = n4 at *
  by_cases a1 : n1 ≤ 20
  · rw [decide_eq_true a1, Bool.true_and]
    have b1 : (n1 : Int) ≤ 20 := by omega
    clear a1
    by_cases a2 : n2 ≤ 20
    · rw [decide_eq_true a2, Bool.true_and]
      have b2 : (n2 : Int) ≤ 20 := by omega
      clear a2
      by_cases a3 : n3 ≤ 60
      · rw [decide_eq_true a3, Bool.true_and]
        have b3 : (n3 : Int) ≤ 60 := by omega
        by_cases a4 : n4 ≤ 100
        · rw [decide_eq_true a4, Bool.true_and]
          have b4 : (n4 : Int) ≤ 100 := by omega
          clear a4
          go_enter Tryz.func12, Tryz.ntmps12
          go_wp2
          go_loopg [3] n3 (fun gg i wr => ∃ k : Nat, k ≤ n3 ∧ n3 - k ≤ gg ∧ i = .int .i64 k ∧ Hid (Below w.heap.size w wr) ∧ Hid (rowOf wr w.heap.size = some #[.slice p1 n1 c1, .slice p2 n2 c2, .slice p3 n3 c3, .slice p4 n4 c4]) ∧ Hid ((g.nodes.drop k).all (fun x : GN => decide (x.prog.length ≤ 100)) = res))
          case atStart => exact ⟨0, Nat.zero_le _, by omega, rfl, HB0.out, HX.out, HSt.out⟩
          case round =>
            obtain ⟨k, hkn, hg, rfl, HB, HX1, HQ⟩ := hrel
            have d2 : wr.cell? ⟨w.heap.size, 2, none⟩ = some (.slice p3 n3 c3) := rowOf_cell HX1.out 2
            by_cases hlt : k < n3
            · have hlz : (k : Int) < (n3 : Int) := by omega
              have hq := HQ.out
              rw [HStep.out k hlt] at hq
              obtain ⟨b, off, rfl, p', c', hc⟩ := hrow.out wr HB.out k hlt
              generalize g.nodes[k]!.prog.length = m at hc hq
              clear hrow HStep HQ
              by_cases hm : m ≤ 100
              · rw [decide_eq_true hm, Bool.true_and] at hq
                have HQ2 := Lib.hid hq
                have hmz : ¬ (m : Int) > 100 := by omega
                clear hq
                go_wp2
                go_roundg (n3 - (k + 1))
                case measure => omega
                case rel => exact ⟨k + 1, by omega, by omega, by go_num, HB.out, HX1.out, HQ2.out⟩
              · rw [decide_eq_false hm, Bool.false_and] at hq
                subst hq
                have hmz : (m : Int) > 100 := by omega
                go_wp2
                go_returns
                exact ⟨rfl, HB.out⟩
            · have hlz : ¬ (k : Int) < (n3 : Int) := by omega
              obtain rfl : k = n3 := by omega
              have hq := HQ.out
              rw [HEnd.out] at hq
              subst hq
              clear hrow HStep HQ
              go_wp2
              go_returns
              exact ⟨rfl, HB.out⟩
        · rw [decide_eq_false a4, Bool.false_and]
          have b4 : ¬ (n4 : Int) ≤ 100 := by omega
          clear a3 a4 hrow HStep
          go_enter Tryz.func12, Tryz.ntmps12
          go_wp2
          go_returns
          exact ⟨rfl, HB0.out⟩
      · rw [decide_eq_false a3, Bool.false_and]
        have b3 : ¬ (n3 : Int) ≤ 60 := by omega
        clear a3 hrow HStep
        go_enter Tryz.func12, Tryz.ntmps12
        go_wp2
        go_returns
        exact ⟨rfl, HB0.out⟩
    · rw [decide_eq_false a2, Bool.false_and]
      have b2 : ¬ (n2 : Int) ≤ 20 := by omega
      clear a2 hrow HStep
      go_enter Tryz.func12, Tryz.ntmps12
      go_wp2
      go_returns
      exact ⟨rfl, HB0.out⟩
  · rw [decide_eq_false a1, Bool.false_and]
    have b1 : ¬ (n1 : Int) ≤ 20 := by omega
    clear a1 hrow HStep
    go_enter Tryz.func12, Tryz.ntmps12
    go_wp2
    go_returns
    exact ⟨rfl, HB0.out⟩
end Go.Proofs.YtjaahmgokiobjaaGreat
/- rows of steps (RHp); the document's has, Like on them, as plain functions and as walks -/
namespace Go.Proofs.YtjaahmgokiobjaaGreat
open Go.RowKit
set_option linter.unusedVariables false
set_option linter.unusedSimpArgs false

instance : Inhabited HV := ⟨HV.zero⟩
def HV.enc (h : HV) : List Value := [.int .i64 h.f, .int .i64 h.k, .int .i64 h.t, .int .i64 h.a0, .int .i64 h.a1, .int .i64 h.a2, .int .i64 h.a3, .int .i64 h.b0, .int .i64 h.b1, .int .i64 h.b2, .int .i64 h.b3]
/-- rows of steps -/
def RHp : RowKind HV where
  enc := HV.enc
  k := 11
  k0 := by decide
  len := fun _ => rfl
  one := by
    intro c u hu
    simp [HV.enc] at hu
    rcases hu with rfl | rfl | rfl | rfl | rfl | rfl | rfl | rfl | rfl | rfl | rfl <;> rfl
  tE := 55
  tS := 53
  zero := HV.zero.val
  bytes := 88
  info := by kernel_rfl
  under := Tryz.underlying53
  zlen := rfl
  byt := by decide
theorem atHp {w : World} {b off : Nat} {xs : List HV} (h : RHp.Row w b off xs) (j : Nat) (hj : j < xs.length) (i : Nat) {u : Value} (hu : (HV.enc xs[j]!)[i]? = some u) :
    w.cell? ⟨b, off + j * 11 + i, none⟩ = some u := h j hj i u hu
/-- what stands in n cells from an address on -/
def elemL (w : World) (ad : Addr) : Nat → Nat → Option (List Value)
  | _, 0 => some []
  | i, n + 1 => match w.cell? (ad.add i), elemL w ad (i + 1) n with
    | some v, some l => some (v :: l)
    | _, _ => none
theorem elemL_get {w : World} {ad : Addr} : ∀ {n i : Nat} {l : List Value}, elemL w ad i n = some l → l.length = n ∧ ∀ j v, l[j]? = some v → w.cell? (ad.add (i + j)) = some v
  | 0, i, l, h => by
    obtain rfl := Option.some.inj h
    exact ⟨rfl, fun j v hj => by simp at hj⟩
  | n + 1, i, l, h => by
    unfold elemL at h
    split at h
    · rename_i v r h1 h2
      obtain rfl := Option.some.inj h
      have q := elemL_get h2
      refine ⟨by simp [q.1], fun j u hj => ?_⟩
      cases j with
      | zero =>
        simp at hj
        subst hj
        exact h1
      | succ j =>
        simp at hj
        have := q.2 j u hj
        rw [show i + 1 + j = i + (j + 1) by omega] at this
        exact this
    · cases h
theorem elemL_of {w : World} {ad : Addr} : ∀ {l : List Value} {i : Nat}, (∀ j v, l[j]? = some v → w.cell? (ad.add (i + j)) = some v) → elemL w ad i l.length = some l
  | [], i, _ => rfl
  | v :: l, i, h => by
    have h1 := h 0 v rfl
    have h2 := elemL_of (l := l) (i := i + 1) (fun j u hj => by
      have := h (j + 1) u (by simpa using hj)
      rw [show i + (j + 1) = i + 1 + j by omega] at this
      exact this)
    rw [Nat.add_zero] at h1
    simp only [List.length_cons, elemL, h1, h2]
theorem elemL_congr {w w' : World} {ad : Addr} (h : ∀ j, w'.cell? (ad.add j) = w.cell? (ad.add j)) : ∀ (n i : Nat), elemL w' ad i n = elemL w ad i n
  | 0, _ => rfl
  | n + 1, i => by simp only [elemL, h, elemL_congr h n]
theorem elemL_drew (w : World) (ad : Addr) (i n : Nat) : elemL w.drew ad i n = elemL w ad i n := elemL_congr (w := w) (w' := w.drew) (ad := ad) (fun _ => rfl) n i
theorem elemL_alloc (w : World) (o : Obj) (b off i n : Nat) (h : b < w.heap.size) : elemL (w.alloc o) ⟨b, off, none⟩ i n = elemL w ⟨b, off, none⟩ i n :=
  elemL_congr (fun j => by
    rw [Addr.add_lit]
    exact ((Below.refl w.heap.size w).alloc (Nat.le_refl _) o).cell h) n i
theorem hop_elem {w W : World} {b off : Nat} {xs : List HV} (hr : RHp.Row w b off xs) (hb : b < w.heap.size) (hB : Below w.heap.size w W) (j : Nat) (hj : j < xs.length) :
    elemL W ⟨b, off + j * 11, none⟩ 0 11 = some (HV.enc xs[j]!) :=
  elemL_of (l := HV.enc xs[j]!) (i := 0) (fun i u hu => by
    rw [Addr.add_lit, Nat.zero_add]
    exact (hr.below hB hb) j hj i u hu)
theorem elem_cells {w : World} {b o : Nat} {h : HV} (e : elemL w ⟨b, o, none⟩ 0 11 = some (HV.enc h)) : w.cell? ⟨b, o, none⟩ = some (.int .i64 h.f) ∧ w.cell? ⟨b, o + 1, none⟩ = some (.int .i64 h.k) ∧ w.cell? ⟨b, o + 2, none⟩ = some (.int .i64 h.t) ∧ w.cell? ⟨b, o + 3, none⟩ = some (.int .i64 h.a0) ∧ w.cell? ⟨b, o + 4, none⟩ = some (.int .i64 h.a1) ∧ w.cell? ⟨b, o + 5, none⟩ = some (.int .i64 h.a2) ∧ w.cell? ⟨b, o + 6, none⟩ = some (.int .i64 h.a3) ∧ w.cell? ⟨b, o + 7, none⟩ = some (.int .i64 h.b0) ∧ w.cell? ⟨b, o + 8, none⟩ = some (.int .i64 h.b1) ∧ w.cell? ⟨b, o + 9, none⟩ = some (.int .i64 h.b2) ∧ w.cell? ⟨b, o + 10, none⟩ = some (.int .i64 h.b3) := by
  have q := fun j v (hj : (HV.enc h)[j]? = some v) => (elemL_get e).2 j v hj
  simp only [Addr.add_lit, Nat.zero_add] at q
  exact ⟨q 0 _ rfl, q 1 _ rfl, q 2 _ rfl, q 3 _ rfl, q 4 _ rfl, q 5 _ rfl, q 6 _ rfl, q 7 _ rfl, q 8 _ rfl, q 9 _ rfl, q 10 _ rfl⟩
/-- a whole step is loaded, wherever it lies -/
theorem loadHs (dst : Option Nat) (type : TypeId) (pos : String) (after : Array Edge) (guard : Option (Nat × Bool)) (x : Operand) (a : Act) (w : World) (next : Act → World → Prop) (Q : Exit → Act → World → Prop) :
    Oper.wp Tryz.prog ⟨dst, .load 55 x, type, pos, after, guard⟩ a w next Q = match a.eval x with
      | .pointer (some ad) => (match elemL w ad 0 11 with
        | some l => next (a.put dst (.agg l.toArray)) w
        | none => slowP (Oper.wp Tryz.prog ⟨dst, .load 55 x, type, pos, after, guard⟩ a w next Q))
      | _ => slowP (Oper.wp Tryz.prog ⟨dst, .load 55 x, type, pos, after, guard⟩ a w next Q) := by
  split
  · rename_i ad hx
    split
    · rename_i l hc
      obtain ⟨hn, hg⟩ := elemL_get hc
      have hl : (loadCells ad 11).run Tryz.prog w = .ok l.toArray w := by
        have := run_loadCells_list (P := Tryz.prog) w ad l (fun j v hj => by have := hg j v hj; rwa [Nat.zero_add] at this)
        rwa [hn] at this
      have ha : (isAgg 55).run Tryz.prog w = .ok true w := by kernel_rfl
      have hs : (sizeOf 55).run Tryz.prog w = .ok 11 w := by kernel_rfl
      have h : (loadVar 55 ad).run Tryz.prog w = .ok (.agg l.toArray) w := by
        simp [loadVar, ha, hs, Result.andThen, hl]
      have h2 : (Instr.loadAt 55 (.pointer (some ad))).run Tryz.prog w = .ok (.agg l.toArray) w := by
        rw [← h]; simp [Instr.loadAt, Instr.sureAddr]
      simp only [Oper.wp, execOp, hx, Sem.run_bind, h2, Result.andThen, Sem.run_pure, Oper.upon_value]
    · rfl
  · rfl
end Go.Proofs.YtjaahmgokiobjaaGreat
