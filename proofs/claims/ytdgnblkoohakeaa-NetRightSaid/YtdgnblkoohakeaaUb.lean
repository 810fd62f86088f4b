/- messages (RM), mailboxes as they lie in a row (RB4), a row of mailboxes that is read (IsBs) -/
import Derived.Test.YtdgnblkoohakeaaUa
namespace Go.Proofs.Ytdgnblkoohakeaa
open Go.RowKit
set_option linter.unusedVariables false
set_option linter.unusedSimpArgs false

def MV.enc (m : MV) : List Value := [.int .i64 m.e, .int .i64 m.d, .int .i64 m.c0, .int .i64 m.c1, .int .i64 m.c2, .int .i64 m.c3, .int .i64 m.k, .int .i64 m.v, .int .i64 m.n, .int .i64 m.c]
abbrev MV.val (m : MV) : Value := .agg #[.int .i64 m.e, .int .i64 m.d, .int .i64 m.c0, .int .i64 m.c1, .int .i64 m.c2, .int .i64 m.c3, .int .i64 m.k, .int .i64 m.v, .int .i64 m.n, .int .i64 m.c]
abbrev mvRow (m : MV) : Array Value := #[.int .i64 m.e, .int .i64 m.d, .int .i64 m.c0, .int .i64 m.c1, .int .i64 m.c2, .int .i64 m.c3, .int .i64 m.k, .int .i64 m.v, .int .i64 m.n, .int .i64 m.c]
def RM : RowKind MV where
  enc := MV.enc
  k := 10
  k0 := by decide
  len := fun _ => rfl
  one := by
    intro c u hu
    simp [MV.enc] at hu
    rcases hu with rfl | rfl | rfl | rfl | rfl | rfl | rfl | rfl | rfl | rfl <;> rfl
  tE := 29
  tS := 32
  zero := .agg #[.int .i64 0, .int .i64 0, .int .i64 0, .int .i64 0, .int .i64 0, .int .i64 0, .int .i64 0, .int .i64 0, .int .i64 0, .int .i64 0]
  bytes := 80
  info := by kernel_rfl
  under := Try.underlying32
  zlen := rfl
  byt := by decide
/-- a mailbox as it lies in its row -/
structure BW where
  e : Int
  f : Int
  t : Int
  p : Option Addr
  n : Nat
  c : Nat
instance : Inhabited BW := ⟨⟨0, 0, 0, none, 0, 0⟩⟩
abbrev BW.val (x : BW) : Value := .agg #[.int .i64 x.e, .int .i64 x.f, .int .i64 x.t, .slice x.p x.n x.c]
abbrev bwRow (x : BW) : Array Value := #[.int .i64 x.e, .int .i64 x.f, .int .i64 x.t, .slice x.p x.n x.c]
def RB4 : RowKind BW where
  enc := fun x => [.int .i64 x.e, .int .i64 x.f, .int .i64 x.t, .slice x.p x.n x.c]
  k := 4
  k0 := by decide
  len := fun _ => rfl
  one := by
    intro c u hu
    simp at hu
    rcases hu with rfl | rfl | rfl | rfl <;> rfl
  tE := 34
  tS := 22
  zero := .agg #[.int .i64 0, .int .i64 0, .int .i64 0, .slice none 0 0]
  bytes := 48
  info := by kernel_rfl
  under := Try.underlying22
  zlen := rfl
  byt := by decide
theorem atM {w : World} {b off : Nat} {xs : List MV} (h : RM.Row w b off xs) (j : Nat) (hj : j < xs.length) :
    w.cell? ⟨b, off + j * 10, none⟩ = some (.int .i64 xs[j]!.e) ∧ w.cell? ⟨b, off + j * 10 + 1, none⟩ = some (.int .i64 xs[j]!.d) ∧ w.cell? ⟨b, off + j * 10 + 2, none⟩ = some (.int .i64 xs[j]!.c0) ∧ w.cell? ⟨b, off + j * 10 + 3, none⟩ = some (.int .i64 xs[j]!.c1) ∧ w.cell? ⟨b, off + j * 10 + 4, none⟩ = some (.int .i64 xs[j]!.c2) ∧ w.cell? ⟨b, off + j * 10 + 5, none⟩ = some (.int .i64 xs[j]!.c3) ∧ w.cell? ⟨b, off + j * 10 + 6, none⟩ = some (.int .i64 xs[j]!.k) ∧ w.cell? ⟨b, off + j * 10 + 7, none⟩ = some (.int .i64 xs[j]!.v) ∧ w.cell? ⟨b, off + j * 10 + 8, none⟩ = some (.int .i64 xs[j]!.n) ∧ w.cell? ⟨b, off + j * 10 + 9, none⟩ = some (.int .i64 xs[j]!.c) :=
  ⟨h j hj 0 _ rfl, h j hj 1 _ rfl, h j hj 2 _ rfl, h j hj 3 _ rfl, h j hj 4 _ rfl, h j hj 5 _ rfl, h j hj 6 _ rfl, h j hj 7 _ rfl, h j hj 8 _ rfl, h j hj 9 _ rfl⟩
theorem atB4 {w : World} {b off : Nat} {xs : List BW} (h : RB4.Row w b off xs) (j : Nat) (hj : j < xs.length) :
    w.cell? ⟨b, off + j * 4, none⟩ = some (.int .i64 xs[j]!.e) ∧ w.cell? ⟨b, off + j * 4 + 1, none⟩ = some (.int .i64 xs[j]!.f) ∧ w.cell? ⟨b, off + j * 4 + 2, none⟩ = some (.int .i64 xs[j]!.t) ∧ w.cell? ⟨b, off + j * 4 + 3, none⟩ = some (.slice xs[j]!.p xs[j]!.n xs[j]!.c) :=
  ⟨h j hj 0 _ rfl, h j hj 1 _ rfl, h j hj 2 _ rfl, h j hj 3 _ rfl⟩
theorem isOpenedU {α : Type} [Inhabited α] {R : RowKind α} {w : World} {v : Value} {xs : List α} (h : R.Is w v xs) : ∃ p c, v = .slice p xs.length c ∧ ∀ j, j < xs.length → ∃ b off, p = some ⟨b, off, none⟩ ∧ b < w.heap.size ∧ R.Row w b off xs := by
  rcases h with ⟨rfl, p, cap, rfl, _⟩ | ⟨h0, b, off, cap, rfl, hb, hr⟩
  · exact ⟨p, cap, rfl, fun j hj => absurd hj (by simp)⟩
  · exact ⟨_, cap, rfl, fun j _ => ⟨b, off, rfl, hb, hr⟩⟩
/-- this raw box is that box -/
structure isBx (w : World) (x : BW) (b : BV) : Prop where
  e : x.e = b.e
  f : x.f = b.f
  t : x.t = b.t
  n : x.n = b.l.length
  k : x.n ≤ x.c
  l : RM.Is w (.slice x.p x.n x.c) b.l
theorem isBx.below {w w' : World} {x : BW} {b : BV} (h : isBx w x b) (hb : Below w.heap.size w w') : isBx w' x b := ⟨h.e, h.f, h.t, h.n, h.k, h.l.below hb⟩
def areBx (w : World) (xs : List BW) (n : List BV) : Prop := xs.length = n.length ∧ ∀ i, i < n.length → isBx w xs[i]! n[i]!
theorem areBx.below {w w' : World} {xs : List BW} {n : List BV} (h : areBx w xs n) (hb : Below w.heap.size w w') : areBx w' xs n := ⟨h.1, fun i hi => (h.2 i hi).below hb⟩
/-- v is a row of these boxes -/
def IsBs (w : World) (v : Value) (n : List BV) : Prop := ∃ xs : List BW, RB4.Is w v xs ∧ areBx w xs n
theorem IsBs.below {w w' : World} {v : Value} {n : List BV} (h : IsBs w v n) (hb : Below w.heap.size w w') : IsBs w' v n := by
  obtain ⟨xs, h1, h2⟩ := h
  exact ⟨xs, h1.below hb, h2.below hb⟩
theorem IsBs.nil (w : World) : IsBs w (.slice none 0 0) [] := ⟨[], RowKind.Is.nil _, rfl, fun i hi => absurd hi (Nat.not_lt_zero i)⟩
/-- the cells of a box that lies in a row, and its list -/
theorem IsBs.opened {w : World} {v : Value} {n : List BV} (h : IsBs w v n) : ∃ p c, v = .slice p n.length c ∧ ∀ i, i < n.length → ∃ b off q d, p = some ⟨b, off, none⟩ ∧ RM.Is w (.slice q (n[i]!).l.length d) (n[i]!).l ∧
    ∀ W, Below w.heap.size w W → W.cell? ⟨b, off + i * 4, none⟩ = some (.int .i64 (n[i]!).e) ∧ W.cell? ⟨b, off + i * 4 + 1, none⟩ = some (.int .i64 (n[i]!).f) ∧ W.cell? ⟨b, off + i * 4 + 2, none⟩ = some (.int .i64 (n[i]!).t) ∧ W.cell? ⟨b, off + i * 4 + 3, none⟩ = some (.slice q (n[i]!).l.length d) := by
  obtain ⟨xs, h1, h2, h3⟩ := h
  obtain ⟨p, c, rfl, ho⟩ := isOpenedU h1
  refine ⟨p, c, by rw [h2], fun i hi => ?_⟩
  obtain ⟨b, off, e, hb, hr⟩ := ho i (by omega)
  have x := h3 i hi
  refine ⟨b, off, xs[i]!.p, xs[i]!.c, e, by rw [← x.n]; exact x.l, fun W hW => ?_⟩
  have a := atB4 (hr.below hW hb) i (by omega)
  rw [x.e, x.f, x.t, x.n] at a
  exact a
theorem IsBs.opened2 {w : World} {v : Value} {n : List BV} (h : IsBs w v n) : ∃ p c, v = .slice p n.length c ∧ ∀ i, i < n.length → ∃ b off q d, p = some ⟨b, off, none⟩ ∧ RM.Is w (.slice q (n[i]!).l.length d) (n[i]!).l ∧ (n[i]!).l.length ≤ d ∧
    ∀ W, Below w.heap.size w W → W.cell? ⟨b, off + i * 4, none⟩ = some (.int .i64 (n[i]!).e) ∧ W.cell? ⟨b, off + i * 4 + 1, none⟩ = some (.int .i64 (n[i]!).f) ∧ W.cell? ⟨b, off + i * 4 + 2, none⟩ = some (.int .i64 (n[i]!).t) ∧ W.cell? ⟨b, off + i * 4 + 3, none⟩ = some (.slice q (n[i]!).l.length d) := by
  obtain ⟨xs, h1, h2, h3⟩ := h
  obtain ⟨p, c, rfl, ho⟩ := isOpenedU h1
  refine ⟨p, c, by rw [h2], fun i hi => ?_⟩
  obtain ⟨b, off, e, hb, hr⟩ := ho i (by omega)
  have x := h3 i hi
  refine ⟨b, off, xs[i]!.p, xs[i]!.c, e, by rw [← x.n]; exact x.l, by rw [← x.n]; exact x.k, fun W hW => ?_⟩
  have a := atB4 (hr.below hW hb) i (by omega)
  rw [x.e, x.f, x.t, x.n] at a
  exact a
end Go.Proofs.Ytdgnblkoohakeaa
