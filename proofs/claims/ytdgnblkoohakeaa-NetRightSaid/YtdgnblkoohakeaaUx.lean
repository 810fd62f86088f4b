/- mailboxes in a row of the call's own, each with its messages in a row of their own: Deep; slices.Clone; net.copied -/
import Derived.Test.YtdgnblkoohakeaaUw
import Derived.Test.YtdgnblkoohakeaaUg
import Derived.Test.YtdgnblkoohakeaaRowBig
import Derived.Laws.Cover3
namespace Go.Proofs.Ytdgnblkoohakeaa
open Go.RowKit
set_option linter.unusedVariables false
set_option linter.unusedSimpArgs false

def blkB (x : BW) : Option Nat := (Value.slice x.p x.n x.c).ownBlock
structure okP (B : Nat) (w : World) (p : BW × BV) : Prop where
  e : p.1.e = p.2.e
  f : p.1.f = p.2.f
  t : p.1.t = p.2.t
  n : p.1.n = p.2.l.length
  l : RM.Own B w (.slice p.1.p p.1.n p.1.c) p.2.l
def apartP (p q : BW × BV) : Prop := ∀ b, blkB p.1 = some b → blkB q.1 ≠ some b
structure DeepB (B : Nat) (w : World) (v : Value) (ps : List (BW × BV)) : Prop where
  own : RB4.Own B w v (ps.map Prod.fst)
  box : ∀ p ∈ ps, okP B w p
  apart : ps.Pairwise apartP
theorem apartP.symm {p q : BW × BV} (h : apartP p q) : apartP q p := fun b h1 h2 => h b h2 h1
theorem capM_own {B : Nat} {w : World} {v : Value} {xs : List MV} (h : RM.Own B w v xs) : capOk v := by
  obtain ⟨_, ⟨rfl, _⟩ | ⟨g, cap, cur, rfl, _, _, hle, _⟩⟩ := h
  · intro p n c e; cases e; exact Nat.le_refl _
  · intro p n c e; cases e; exact hle
theorem capB_own {B : Nat} {w : World} {v : Value} {xs : List BW} (h : RB4.Own B w v xs) : capOk v := by
  obtain ⟨_, ⟨rfl, _⟩ | ⟨g, cap, cur, rfl, _, _, hle, _⟩⟩ := h
  · intro p n c e; cases e; exact Nat.le_refl _
  · intro p n c e; cases e; exact hle
/-- a row of messages stays where a row of boxes is written -/
theorem own_other {B : Nat} {w w' : World} {v u : Value} {xs : List BW} {l : List MV} (h : RM.Own B w u l) (hv : RB4.Own B w v xs) (g : w.grownBy w' v.ownBlock) : RM.Own B w' u l :=
  h.keepK fun b hb => g.block b (h.lt b hb).2 fun e => by
    obtain ⟨c1, h1, _⟩ := h.cellsB hb
    obtain ⟨c2, h2, _⟩ := hv.cellsB e.symm
    rw [h1] at h2
    simp only [Option.some.injEq, Obj.cells.injEq] at h2
    exact absurd h2.2.1 (by decide)
/-- a row of boxes stays where a row of messages is written -/
theorem own_other' {B : Nat} {w w' : World} {v u : Value} {xs : List BW} {l : List MV} (hv : RB4.Own B w v xs) (h : RM.Own B w u l) (g : w.grownBy w' u.ownBlock) : RB4.Own B w' v xs :=
  hv.keepK fun b hb => g.block b (hv.lt b hb).2 fun e => by
    obtain ⟨c1, h1, _⟩ := hv.cellsB hb
    obtain ⟨c2, h2, _⟩ := h.cellsB e.symm
    rw [h1] at h2
    simp only [Option.some.injEq, Obj.cells.injEq] at h2
    exact absurd h2.2.1 (by decide)
theorem okP.grown {B : Nat} {w w' : World} {v : Value} {xs : List BW} {p : BW × BV} (h : okP B w p) (hv : RB4.Own B w v xs) (g : w.grownBy w' v.ownBlock) : okP B w' p := ⟨h.e, h.f, h.t, h.n, own_other h.l hv g⟩
theorem okP.below {B : Nat} {w w' : World} {p : BW × BV} (h : okP B w p) (hb : Below w.heap.size w w') : okP B w' p := ⟨h.e, h.f, h.t, h.n, h.l.below hb⟩
theorem DeepB.below {B : Nat} {w w' : World} {v : Value} {ps : List (BW × BV)} (h : DeepB B w v ps) (hb : Below w.heap.size w w') : DeepB B w' v ps := ⟨h.own.below hb, fun p hp => (h.box p hp).below hb, h.apart⟩
theorem get_map {α β : Type} [Inhabited α] [Inhabited β] (f : α → β) {xs : List α} {i : Nat} (hi : i < xs.length) : (xs.map f)[i]! = f xs[i]! := by
  rw [getElem!_pos _ i (by simpa using hi), getElem!_pos xs i hi, List.getElem_map]
theorem DeepB.are {B : Nat} {w : World} {v : Value} {ps : List (BW × BV)} (h : DeepB B w v ps) : areBx w (ps.map Prod.fst) (ps.map Prod.snd) := by
  refine ⟨by simp, fun i hi => ?_⟩
  have hi : i < ps.length := by simpa using hi
  rw [get_map _ hi, get_map _ hi, getElem!_pos ps i hi]
  have q := h.box _ (List.getElem_mem hi)
  exact ⟨q.e, q.f, q.t, q.n, capM_own q.l _ _ _ rfl, q.l.is⟩
theorem DeepB.is {B : Nat} {w : World} {v : Value} {ps : List (BW × BV)} (h : DeepB B w v ps) : IsBs w v (ps.map Prod.snd) := ⟨ps.map Prod.fst, h.own.is, h.are⟩
theorem DeepB.cap {B : Nat} {w : World} {v : Value} {ps : List (BW × BV)} (h : DeepB B w v ps) : capOk v := capB_own h.own
/-- all of it lies in blocks from B on -/
theorem DeepB.off {B : Nat} {w : World} {v : Value} {ps : List (BW × BV)} (h : DeepB B w v ps) {G : Nat → Prop} (hG : ∀ b, G b → b < B) : IsBsG G w v (ps.map Prod.snd) := by
  refine ⟨ps.map Prod.fst, h.own.is, h.are, fun _ b off n c e q => ?_, fun i hi _ b off n c e q => ?_⟩
  · have h1 := (h.own.lt b (by rw [e]; rfl)).1
    have := hG b q
    omega
  · have hi : i < ps.length := by simpa using hi
    rw [get_map _ hi, getElem!_pos ps i hi] at e
    have h1 := ((h.box _ (List.getElem_mem hi)).l.lt b (by rw [e]; rfl)).1
    have := hG b q
    omega
/-- a list is put in the place of another one -/
theorem Own.setL {B : Nat} {w : World} {g n cap : Nat} {xs : List BW} (h : RB4.Own B w (.slice (some ⟨g, 0, none⟩) n cap) xs) {i : Nat} (hi : i < xs.length) (p : Option Addr) (m c : Nat) :
    RB4.Own B (w.setCell ⟨g, i * 4 + 3, none⟩ (.slice p m c)) (.slice (some ⟨g, 0, none⟩) n cap) (xs.set i ⟨xs[i]!.e, xs[i]!.f, xs[i]!.t, p, m, c⟩) ∧ w.grownBy (w.setCell ⟨g, i * 4 + 3, none⟩ (.slice p m c)) (some g) := by
  obtain ⟨cur, hg, hn, hB, hc, hm, hs, ht⟩ := h.row
  have hk4 : RB4.k = 4 := rfl
  have hr : rowOf w g = some cur := RowKind.Own.rowOf (R := RB4) (B := B) (n := n) (cap := cap) (xs := xs) hg
  have hset := setCell_row hr (i * 4 + 3) (.slice p m c)
  rw [hset]
  have hat : ∀ j, j < 4 → cur[i * 4 + j]? = (RB4.enc xs[i]!)[j]? := fun j hj => by
    have h1 := RB4.cells_get xs i hi j hj
    rw [hk4] at h1
    rw [← h1, ← ht, hk4, List.getElem?_take, if_pos (by omega), Array.getElem?_toList]
  have e : putFrom cur (i * RB4.k) (RB4.enc ⟨xs[i]!.e, xs[i]!.f, xs[i]!.t, p, m, c⟩) = cur.setIfInBounds (i * 4 + 3) (.slice p m c) := by
    rw [hk4]
    refine Array.ext_getElem? fun t => ?_
    rw [hk4] at hs
    rw [get_putFrom _ _ _ _ (by show i * 4 + 4 ≤ _; omega), Array.getElem?_setIfInBounds]
    have hl : (RB4.enc ⟨xs[i]!.e, xs[i]!.f, xs[i]!.t, p, m, c⟩).length = 4 := rfl
    rw [hl]
    by_cases h1 : i * 4 ≤ t ∧ t < i * 4 + 4
    · rw [if_pos h1]
      obtain ⟨j, rfl⟩ : ∃ j, t = i * 4 + j := ⟨t - i * 4, by omega⟩
      have hj : j < 4 := by omega
      rw [Nat.add_sub_cancel_left]
      have hh := hat j hj
      rcases (by omega : j = 0 ∨ j = 1 ∨ j = 2 ∨ j = 3) with rfl | rfl | rfl | rfl
      · rw [if_neg (by omega), hh]; rfl
      · rw [if_neg (by omega), hh]; rfl
      · rw [if_neg (by omega), hh]; rfl
      · rw [if_pos rfl, if_pos (by omega)]; rfl
    · rw [if_neg h1, if_neg (by omega)]
  rw [← e]
  exact ⟨h.setAt hi _ hg, grown_setRow _ _ _⟩
/-! ### slices.Clone -/
theorem eqNilMs (a : Option Addr) (l c : Nat) (w : World) : (binOp .eql 32 (.slice a l c) (.slice none 0 0)).run Try.prog w = .ok (.bool a.isNone) w := by
  simp only [binOp]
  simp [run_equal_slice_nil w _ _ a l c Try.underlying32]
theorem eqNilBs (a : Option Addr) (l c : Nat) (w : World) : (binOp .eql 22 (.slice a l c) (.slice none 0 0)).run Try.prog w = .ok (.bool a.isNone) w := by
  simp only [binOp]
  simp [run_equal_slice_nil w _ _ a l c Try.underlying22]
section
attribute [local go_sem ↓] eqNilMs eqNilBs
set_option maxRecDepth 100000 in
set_option maxHeartbeats 4000000 in
theorem pcloneM_any (xs : List MV) (v : Value) (w : World) (hl : xs.length ≤ 900000) (h : RM.Is w v xs) : Calls Try.prog 29 #[v] w (RM.Made xs w) := by
  obtain ⟨p, c, rfl⟩ := h.slice
  have HI := Lib.hid h
  cases p with
  | none =>
    have hx : xs = [] ∧ c = 0 := by
      rcases h with ⟨hx, q, d, e, hq⟩ | ⟨_, b, off, cap, e, _⟩
      · simp only [Value.slice.injEq] at e
        obtain ⟨rfl, _, rfl⟩ := e
        exact ⟨hx, hq rfl⟩
      · cases e
    obtain ⟨rfl, rfl⟩ := hx
    clear h HI
    show Calls _ _ #[.slice none 0 0] _ _
    clear hl
    go_enter Try.func29, Try.ntmps29
    go_wp2
    go_returns
    exact ⟨_, rfl, RowKind.Own.nil RM _ _, Below.refl _ _⟩
  | some ad =>
    clear h
    have HO := Lib.hid (show RM.Own w.heap.size (w.alloc (.cells #[] 29)) (.slice (some ⟨w.heap.size, 0, none⟩) 0 0) [] from World.ownsRow_made w #[] 0 (Nat.le_refl _) (Nat.zero_le _) rfl)
    have HB := Lib.hid ((Below.refl w.heap.size w).alloc (Nat.le_refl _) (.cells #[] 29))
    have HL : Hid ((([] : List MV).length + xs.length) * RM.bytes ≤ 140737488355328) := by rw [Hid, show RM.bytes = 80 from rfl]; simp; omega
    have HZ := Lib.hid HB.out.size
    have HI2 := Lib.hid (HI.out.below HB.out)
    generalize xs.length = n at HI HI2 ⊢
    go_enter Try.func29, Try.ntmps29
    go_wp2_with (at_builtin; refine RowKind.Own.appendAnyL (R := RM) (ys := xs) HO.out HB.out HZ.out (by decide) rfl _ _ rfl rfl rfl HI2.out HL.out ?_; intro v2 w2 hO2 hB2 hz2)
    have HO2 := Lib.hid hO2; have HB2 := Lib.hid hB2
    go_returns
    exact ⟨_, rfl, HO2.out, HB2.out⟩
set_option maxRecDepth 100000 in
set_option maxHeartbeats 4000000 in
theorem pcloneB_any (xs : List BW) (v : Value) (w : World) (hl : xs.length ≤ 900000) (h : RB4.Is w v xs) : Calls Try.prog 28 #[v] w (RB4.Made xs w) := by
  obtain ⟨p, c, rfl⟩ := h.slice
  have HI := Lib.hid h
  cases p with
  | none =>
    have hx : xs = [] ∧ c = 0 := by
      rcases h with ⟨hx, q, d, e, hq⟩ | ⟨_, b, off, cap, e, _⟩
      · simp only [Value.slice.injEq] at e
        obtain ⟨rfl, _, rfl⟩ := e
        exact ⟨hx, hq rfl⟩
      · cases e
    obtain ⟨rfl, rfl⟩ := hx
    clear h HI
    show Calls _ _ #[.slice none 0 0] _ _
    clear hl
    go_enter Try.func28, Try.ntmps28
    go_wp2
    go_returns
    exact ⟨_, rfl, RowKind.Own.nil RB4 _ _, Below.refl _ _⟩
  | some ad =>
    clear h
    have HO := Lib.hid (show RB4.Own w.heap.size (w.alloc (.cells #[] 34)) (.slice (some ⟨w.heap.size, 0, none⟩) 0 0) [] from World.ownsRow_made w #[] 0 (Nat.le_refl _) (Nat.zero_le _) rfl)
    have HB := Lib.hid ((Below.refl w.heap.size w).alloc (Nat.le_refl _) (.cells #[] 34))
    have HL : Hid ((([] : List BW).length + xs.length) * RB4.bytes ≤ 140737488355328) := by rw [Hid, show RB4.bytes = 48 from rfl]; simp; omega
    have HZ := Lib.hid HB.out.size
    have HI2 := Lib.hid (HI.out.below HB.out)
    generalize xs.length = n at HI HI2 ⊢
    go_enter Try.func28, Try.ntmps28
    go_wp2_with (at_builtin; refine RowKind.Own.appendAnyL (R := RB4) (ys := xs) HO.out HB.out HZ.out (by decide) rfl _ _ rfl rfl rfl HI2.out HL.out ?_; intro v2 w2 hO2 hB2 hz2)
    have HO2 := Lib.hid hO2; have HB2 := Lib.hid hB2
    go_returns
    exact ⟨_, rfl, HO2.out, HB2.out⟩
end
end Go.Proofs.Ytdgnblkoohakeaa
