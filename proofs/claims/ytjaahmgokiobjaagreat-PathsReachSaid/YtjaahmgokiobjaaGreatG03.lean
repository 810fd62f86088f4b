/- plain facts of steps (done, put together, held against each other) -/
import Derived.Test.YtjaahmgokiobjaaGreatG02
namespace Go.Proofs.YtjaahmgokiobjaaGreat
open Go.RowKit
set_option linter.unusedVariables false
set_option linter.unusedSimpArgs false

theorem shape_of {h : HV} (q : h.rightB = true) : h.right := of_decide_eq_true q
def TV.coord (t : TV) (i : Int) : Int := if i = 0 then t.c0 else if i = 1 then t.c1 else if i = 2 then t.c2 else t.c3
/-- the coordinate of what a step makes of a timestamp -/
def outC (h : HV) (t : TV) (i : Int) : Int := if i < h.k then h.add i + t.coord i else if i < h.k + h.t then h.tl (i - h.k) else 0
def TV.rightB (t : TV) : Bool := Go.Proofs.YtjaahmgokiobjaaGreat.rightB t.d t.c0 t.c1 t.c2 t.c3
def outT (h : HV) (t : TV) : TV := ⟨h.k + h.t, outC h t 0, outC h t 1, outC h t 2, outC h t 3⟩
def applyOk (h : HV) (t : TV) : Bool := h.rightB && t.rightB && (t.d == h.f) && (outT h t).rightB
def TV.gate (ok : Bool) (t : TV) : TV := ⟨Go.Proofs.YtjaahmgokiobjaaGreat.gate ok t.d, Go.Proofs.YtjaahmgokiobjaaGreat.gate ok t.c0, Go.Proofs.YtjaahmgokiobjaaGreat.gate ok t.c1, Go.Proofs.YtjaahmgokiobjaaGreat.gate ok t.c2, Go.Proofs.YtjaahmgokiobjaaGreat.gate ok t.c3⟩
def applyT (h : HV) (t : TV) : TV := TV.gate (applyOk h t) (outT h t)

theorem right_of' {d c0 c1 c2 c3 : Int} (h : rightB d c0 c1 c2 c3 = true) : rightP d c0 c1 c2 c3 := of_decide_eq_true h
theorem greatest_le (d i : Int) : greatestS d i ≤ 1048576 := by unfold greatestS; split <;> (try split) <;> omega
theorem right_bound {d c0 c1 c2 c3 : Int} (h : rightB d c0 c1 c2 c3 = true) : (0 ≤ c0 ∧ c0 ≤ 1048576) ∧ (0 ≤ c1 ∧ c1 ≤ 1048576) ∧ (0 ≤ c2 ∧ c2 ≤ 1048576) ∧ (0 ≤ c3 ∧ c3 ≤ 1048576) := by
  have r := right_of' h
  have := greatest_le d 0; have := greatest_le d 1; have := greatest_le d 2; have := greatest_le d 3
  unfold rightP at r
  omega

def leC (g ak bk A0 B0 A1 B1 A2 B2 A3 B3 : Int) : Bool := decide ((0 < g → A0 ≤ B0 ∧ (ak ≤ 0 ∨ 0 < bk)) ∧ (1 < g → A1 ≤ B1 ∧ (ak ≤ 1 ∨ 1 < bk)) ∧ (2 < g → A2 ≤ B2 ∧ (ak ≤ 2 ∨ 2 < bk)) ∧ (3 < g → A3 ≤ B3 ∧ (ak ≤ 3 ∨ 3 < bk)))
/-- is one step at or before another one? -/
def leH (a b : HV) : Bool := a.rightB && b.rightB && (a.f == b.f) && (a.k + a.t == b.k + b.t) && leC (a.k + a.t) a.k b.k (a.at 0) (b.at 0) (a.at 1) (b.at 1) (a.at 2) (b.at 2) (a.at 3) (b.at 3)
def cmb (i pk A B : Int) : Int := if i < pk then B + A else B
def pick (i c0 c1 c2 c3 : Int) : Int := if i = 0 then c0 else if i = 1 then c1 else if i = 2 then c2 else c3
/-- the numbers of two steps put together: m kept, g given -/
def thenR (f m g pk A0 A1 A2 A3 B0 B1 B2 B3 : Int) : HV :=
  ⟨f, m, g - m, if 0 < m then cmb 0 pk A0 B0 else 0, if 1 < m then cmb 1 pk A1 B1 else 0, if 2 < m then cmb 2 pk A2 B2 else 0, if 3 < m then cmb 3 pk A3 B3 else 0,
    if m < g then pick m (cmb 0 pk A0 B0) (cmb 1 pk A1 B1) (cmb 2 pk A2 B2) (cmb 3 pk A3 B3) else 0,
    if m + 1 < g then pick (m + 1) (cmb 0 pk A0 B0) (cmb 1 pk A1 B1) (cmb 2 pk A2 B2) (cmb 3 pk A3 B3) else 0,
    if m + 2 < g then pick (m + 2) (cmb 0 pk A0 B0) (cmb 1 pk A1 B1) (cmb 2 pk A2 B2) (cmb 3 pk A3 B3) else 0,
    if m + 3 < g then pick (m + 3) (cmb 0 pk A0 B0) (cmb 1 pk A1 B1) (cmb 2 pk A2 B2) (cmb 3 pk A3 B3) else 0⟩
/-- two steps put together -/
def thenH (a b : HV) : HV := thenR a.f (imin a.k b.k) (b.k + b.t) b.k (a.at 0) (a.at 1) (a.at 2) (a.at 3) (b.at 0) (b.at 1) (b.at 2) (b.at 3)
def thenOk (a b : HV) : Bool := a.rightB && b.rightB && (a.k + a.t == b.f) && (thenH a b).rightB
def thenV (a b : HV) : HV := HV.gate (thenOk a b) (thenH a b)
def leT (t u : TV) : Bool := leB t.d t.c0 t.c1 t.c2 t.c3 u.d u.c0 u.c1 u.c2 u.c3

theorem leT_eq (t u : TV) : leT t u = decide (t.d = u.d ∧ t.rightB = true ∧ u.rightB = true ∧ t.c0 ≤ u.c0 ∧ t.c1 ≤ u.c1 ∧ t.c2 ≤ u.c2 ∧ t.c3 ≤ u.c3) := by
  rw [Bool.eq_iff_iff]; simp [leT, leB, pairedB, TV.rightB, and_assoc]
  exact decide_eq_true_iff.symm
theorem at_bound {h : HV} (r : h.right) (i : Int) : 0 ≤ h.at i ∧ h.at i ≤ 1048576 := by
  obtain ⟨_, _, _, ⟨⟨_, _, _⟩, ⟨_, _, _⟩, ⟨_, _, _⟩, ⟨_, _, _⟩⟩, ⟨⟨_, _, _⟩, ⟨_, _, _⟩, ⟨_, _, _⟩, ⟨_, _, _⟩⟩⟩ := r
  unfold HV.at HV.add HV.tl
  constructor <;> (split <;> (split <;> (try split) <;> (try split) <;> assumption))
theorem right_size {h : HV} (r : h.right) : 1 ≤ h.f ∧ h.f ≤ 4 ∧ 0 ≤ h.k ∧ h.k ≤ h.f ∧ 0 ≤ h.t ∧ h.t ≤ 4 ∧ 1 ≤ h.k + h.t ∧ h.k + h.t ≤ 4 := by
  have := r.1; unfold HV.shape at this; have := r.2.1; have := r.2.2.1; omega
theorem outC_at (h : HV) (t : TV) (i : Int) : outC h t i = if i < h.k then h.at i + t.coord i else if i < h.k + h.t then h.at i else 0 := by
  unfold outC HV.at
  by_cases hk : i < h.k
  · simp only [if_pos hk]
  · simp only [if_neg hk]
theorem imin_eq (x y : Int) : imin x y = if y < x then y else x := rfl

/-- what stands at each place of two steps put together -/
theorem at_then (f m g pk A0 A1 A2 A3 B0 B1 B2 B3 : Int) (hm : 0 ≤ m) (hm4 : m ≤ 4) (hg : m ≤ g) (hg4 : g ≤ 4) :
    (0 < g → (thenR f m g pk A0 A1 A2 A3 B0 B1 B2 B3).at 0 = cmb 0 pk A0 B0) ∧ (1 < g → (thenR f m g pk A0 A1 A2 A3 B0 B1 B2 B3).at 1 = cmb 1 pk A1 B1) ∧
    (2 < g → (thenR f m g pk A0 A1 A2 A3 B0 B1 B2 B3).at 2 = cmb 2 pk A2 B2) ∧ (3 < g → (thenR f m g pk A0 A1 A2 A3 B0 B1 B2 B3).at 3 = cmb 3 pk A3 B3) := by
  generalize hc0 : cmb 0 pk A0 B0 = c0
  generalize hc1 : cmb 1 pk A1 B1 = c1
  generalize hc2 : cmb 2 pk A2 B2 = c2
  generalize hc3 : cmb 3 pk A3 B3 = c3
  have h5 : m = 0 ∨ m = 1 ∨ m = 2 ∨ m = 3 ∨ m = 4 := by omega
  simp only [thenR, HV.at, HV.add, HV.tl, hc0, hc1, hc2, hc3, pick]
  rcases h5 with rfl | rfl | rfl | rfl | rfl <;> (refine ⟨?_, ?_, ?_, ?_⟩ <;> intro hi <;> simp <;> omega)

/-- two right steps of one shape with the same numbers are one -/
theorem hv_ext {x y : HV} (hx : x.right) (hy : y.right) (hf : x.f = y.f) (hk : x.k = y.k) (ht : x.t = y.t)
    (h0 : 0 < x.k + x.t → x.at 0 = y.at 0) (h1 : 1 < x.k + x.t → x.at 1 = y.at 1) (h2 : 2 < x.k + x.t → x.at 2 = y.at 2) (h3 : 3 < x.k + x.t → x.at 3 = y.at 3) : x = y := by
  have s := right_size hx
  obtain ⟨f, k, t, a0, a1, a2, a3, b0, b1, b2, b3⟩ := x
  obtain ⟨f', k', t', x0, x1, x2, x3, y0, y1, y2, y3⟩ := y
  simp only at hf hk ht s h0 h1 h2 h3
  subst hf; subst hk; subst ht
  have p := hx.2.2.2; have q := hy.2.2.2
  unfold fitsP at p q
  simp only at p q
  have hs : (k = 0 ∨ k = 1 ∨ k = 2 ∨ k = 3 ∨ k = 4) ∧ (t = 0 ∨ t = 1 ∨ t = 2 ∨ t = 3 ∨ t = 4) := by omega
  clear hx hy
  simp only [HV.at, HV.add, HV.tl] at h0 h1 h2 h3
  obtain ⟨rfl | rfl | rfl | rfl | rfl, rfl | rfl | rfl | rfl | rfl⟩ := hs
  all_goals first | (exfalso; omega) | skip
  all_goals
    simp at h0 h1 h2 h3
    congr 1 <;> omega

theorem leH_eq (a b : HV) : leH a b = decide (a.rightB = true ∧ b.rightB = true ∧ a.f = b.f ∧ a.k + a.t = b.k + b.t ∧
    (0 < a.k + a.t → a.at 0 ≤ b.at 0 ∧ (a.k ≤ 0 ∨ 0 < b.k)) ∧ (1 < a.k + a.t → a.at 1 ≤ b.at 1 ∧ (a.k ≤ 1 ∨ 1 < b.k)) ∧
    (2 < a.k + a.t → a.at 2 ≤ b.at 2 ∧ (a.k ≤ 2 ∨ 2 < b.k)) ∧ (3 < a.k + a.t → a.at 3 ≤ b.at 3 ∧ (a.k ≤ 3 ∨ 3 < b.k))) := by
  rw [Bool.eq_iff_iff]
  simp only [leH, leC, Bool.and_eq_true, beq_iff_eq, decide_eq_true_eq, and_assoc]
theorem coord_out (h : HV) (t : TV) : (outT h t).coord 0 = outC h t 0 ∧ (outT h t).coord 1 = outC h t 1 ∧ (outT h t).coord 2 = outC h t 2 ∧ (outT h t).coord 3 = outC h t 3 := by
  simp [TV.coord, outT]
theorem coord_is (t : TV) : t.coord 0 = t.c0 ∧ t.coord 1 = t.c1 ∧ t.coord 2 = t.c2 ∧ t.coord 3 = t.c3 := by simp [TV.coord]
theorem tright {t : TV} (h : t.rightB = true) : rightP t.d t.c0 t.c1 t.c2 t.c3 := right_of' h
theorem tpos {t : TV} (h : t.rightB = true) : 0 ≤ t.c0 ∧ 0 ≤ t.c1 ∧ 0 ≤ t.c2 ∧ 0 ≤ t.c3 := by have r := tright h; unfold rightP at r; omega
theorem applyOk_iff (h : HV) (t : TV) : applyOk h t = true ↔ h.rightB = true ∧ t.rightB = true ∧ t.d = h.f ∧ (outT h t).rightB = true := by
  simp [applyOk, and_assoc]
theorem thenOk_iff (a b : HV) : thenOk a b = true ↔ a.rightB = true ∧ b.rightB = true ∧ a.k + a.t = b.f ∧ (thenH a b).rightB = true := by
  simp [thenOk, and_assoc]
theorem gate_tv (t : TV) : TV.gate true t = t := rfl
theorem applyT_ok {h : HV} {t : TV} (o : applyOk h t = true) : applyT h t = outT h t := by unfold applyT; rw [o]; rfl
theorem thenV_ok {a b : HV} (o : thenOk a b = true) : thenV a b = thenH a b := by unfold thenV; rw [o]; rfl

/-- the places of two steps put together, by its numbers -/
theorem then_at {a b : HV} (o : thenOk a b = true) :
    (thenH a b).f = a.f ∧ (thenH a b).k = imin a.k b.k ∧ (thenH a b).k + (thenH a b).t = b.k + b.t ∧
    (0 < b.k + b.t → (thenH a b).at 0 = cmb 0 b.k (a.at 0) (b.at 0)) ∧ (1 < b.k + b.t → (thenH a b).at 1 = cmb 1 b.k (a.at 1) (b.at 1)) ∧
    (2 < b.k + b.t → (thenH a b).at 2 = cmb 2 b.k (a.at 2) (b.at 2)) ∧ (3 < b.k + b.t → (thenH a b).at 3 = cmb 3 b.k (a.at 3) (b.at 3)) := by
  obtain ⟨ha, hb, _, _⟩ := (thenOk_iff a b).1 o
  have sa := right_size (shape_of ha); have sb := right_size (shape_of hb)
  have hm : 0 ≤ imin a.k b.k ∧ imin a.k b.k ≤ 4 ∧ imin a.k b.k ≤ b.k + b.t := by unfold imin; split <;> omega
  have h := at_then a.f (imin a.k b.k) (b.k + b.t) b.k (a.at 0) (a.at 1) (a.at 2) (a.at 3) (b.at 0) (b.at 1) (b.at 2) (b.at 3) hm.1 hm.2.1 hm.2.2 (by omega)
  exact ⟨rfl, rfl, by show imin a.k b.k + (b.k + b.t - imin a.k b.k) = _; omega, h⟩

/-- a step keeps the order of timestamps -/
theorem keeps_time {h : HV} {t u : TV} (hle : leT t u = true) (ho : applyOk h u = true) : applyOk h t = true ∧ leT (applyT h t) (applyT h u) = true := by
  rw [leT_eq, decide_eq_true_eq] at hle
  obtain ⟨hd, ht, hu, l0, l1, l2, l3⟩ := hle
  obtain ⟨hr, _, hf, hO⟩ := (applyOk_iff h u).1 ho
  have b0 := at_bound (shape_of hr) 0; have b1 := at_bound (shape_of hr) 1; have b2 := at_bound (shape_of hr) 2; have b3 := at_bound (shape_of hr) 3
  have p := tpos ht
  have e : ∀ i, outC h t i = _ := outC_at h t
  have e' : ∀ i, outC h u i = _ := outC_at h u
  have c := coord_is t; have c' := coord_is u
  have le : (outT h t).c0 ≤ (outT h u).c0 ∧ (outT h t).c1 ≤ (outT h u).c1 ∧ (outT h t).c2 ≤ (outT h u).c2 ∧ (outT h t).c3 ≤ (outT h u).c3 ∧ 0 ≤ (outT h t).c0 ∧ 0 ≤ (outT h t).c1 ∧ 0 ≤ (outT h t).c2 ∧ 0 ≤ (outT h t).c3 := by
    simp only [outT, e, e', c.1, c.2.1, c.2.2.1, c.2.2.2, c'.1, c'.2.1, c'.2.2.1, c'.2.2.2]
    omega
  have hot : (outT h t).rightB = true := by
    have r := tright hO
    apply decide_eq_true
    unfold rightP at r ⊢
    have : (outT h t).d = (outT h u).d := rfl
    rw [this]
    omega
  have ok : applyOk h t = true := (applyOk_iff h t).2 ⟨hr, ht, hd.trans hf, hot⟩
  refine ⟨ok, ?_⟩
  rw [applyT_ok ok, applyT_ok ho, leT_eq]
  exact decide_eq_true ⟨rfl, hot, hO, le.1, le.2.1, le.2.2.1, le.2.2.2.1⟩

/-- of two steps in order what they make is in order -/
theorem order_time {a b : HV} {t : TV} (hle : leH a b = true) (ha : applyOk a t = true) (hb : applyOk b t = true) : leT (applyT a t) (applyT b t) = true := by
  rw [leH_eq, decide_eq_true_eq] at hle
  obtain ⟨_, _, hf, hg, l0, l1, l2, l3⟩ := hle
  obtain ⟨ra, rt, da, oa⟩ := (applyOk_iff a t).1 ha
  obtain ⟨rb, _, db, ob⟩ := (applyOk_iff b t).1 hb
  have p := tpos rt
  have sa := right_size (shape_of ra); have sb := right_size (shape_of rb)
  have c := coord_is t
  rw [applyT_ok ha, applyT_ok hb, leT_eq]
  refine decide_eq_true ⟨hg, oa, ob, ?_⟩
  simp only [outT, outC_at, c.1, c.2.1, c.2.2.1, c.2.2.2]
  omega

/-- steps in order, both at or before the other, that keep as many: they are one -/
theorem order_one {a b : HV} (h : leH a b = true) (h' : leH b a = true) (hk : a.k = b.k) : a = b := by
  rw [leH_eq, decide_eq_true_eq] at h h'
  obtain ⟨ra, rb, hf, hg, l0, l1, l2, l3⟩ := h
  obtain ⟨_, _, _, _, k0, k1, k2, k3⟩ := h'
  exact hv_ext (shape_of ra) (shape_of rb) hf hk (by omega) (by omega) (by omega) (by omega) (by omega)
theorem order_self {a : HV} (r : a.rightB = true) : leH a a = true := by
  rw [leH_eq]
  exact decide_eq_true ⟨r, r, rfl, rfl, by omega, by omega, by omega, by omega⟩
/-- at 0 -/
theorem order_zero {a b : HV} (hf : a.f = b.f) (hk : a.k = b.k) (ha : applyOk a ⟨a.f, 0, 0, 0, 0⟩ = true) (hb : applyOk b ⟨a.f, 0, 0, 0, 0⟩ = true) :
    leH a b = leT (applyT a ⟨a.f, 0, 0, 0, 0⟩) (applyT b ⟨a.f, 0, 0, 0, 0⟩) := by
  obtain ⟨ra, rt, da, oa⟩ := (applyOk_iff _ _).1 ha
  obtain ⟨rb, _, db, ob⟩ := (applyOk_iff _ _).1 hb
  have sa := right_size (shape_of ra); have sb := right_size (shape_of rb)
  rw [applyT_ok ha, applyT_ok hb, leT_eq, leH_eq, decide_eq_decide]
  have c := coord_is ⟨a.f, 0, 0, 0, 0⟩
  simp only at c
  constructor
  · rintro ⟨_, _, _, hg, l0, l1, l2, l3⟩
    refine ⟨hg, oa, ob, ?_⟩
    simp only [outT, outC_at, c.1, c.2.1, c.2.2.1, c.2.2.2]
    omega
  · rintro ⟨hg, _, _, l⟩
    have hg' : a.k + a.t = b.k + b.t := hg
    simp only [outT, outC_at, c.1, c.2.1, c.2.2.1, c.2.2.2] at l
    exact ⟨ra, rb, hf, hg', by omega, by omega, by omega, by omega⟩

theorem arith_time (i ka ga kb gb kt gt At Bt T P : Int) (hi : 0 ≤ i) (hka : ka ≤ ga) (hkb : kb ≤ gb) (hbk : kb ≤ ga) (hk : kt = if kb < ka then kb else ka) (hs : gt = gb) (hp : i < gb → P = if i < kb then Bt + At else Bt) :
    (if i < kb then Bt + (if i < ka then At + T else if i < ga then At else 0) else if i < gb then Bt else 0) = (if i < kt then P + T else if i < gt then P else 0) := by
  subst hs
  have hk' : (kb < ka ∧ kt = kb) ∨ (ka ≤ kb ∧ kt = ka) := by
    rw [hk]; split
    · exact Or.inl ⟨by assumption, rfl⟩
    · exact Or.inr ⟨by omega, rfl⟩
  clear hk
  by_cases h1 : i < gt
  · have hp' := hp h1
    clear hp
    split at hp' <;> (repeat' split) <;> omega
  · clear hp
    (repeat' split) <;> omega
/-- two steps put together do what they do one behind the other -/
theorem then_time {a b : HV} {t : TV} (o : thenOk a b = true) (oa : applyOk a t = true) :
    applyOk b (applyT a t) = applyOk (thenV a b) t ∧ applyT b (applyT a t) = applyT (thenV a b) t := by
  obtain ⟨ra, rb, hg, rt⟩ := (thenOk_iff a b).1 o
  obtain ⟨_, tt, hd, ot⟩ := (applyOk_iff a t).1 oa
  rw [applyT_ok oa, thenV_ok o]
  obtain ⟨hf, hk, hs, p0, p1, p2, p3⟩ := then_at o
  have sa := right_size (shape_of ra); have sb := right_size (shape_of rb)
  have hO : outT b (outT a t) = outT (thenH a b) t := by
    have c' := coord_out a t
    have A := fun i At Bt T P (hi : 0 ≤ i) hp => arith_time i a.k (a.k + a.t) b.k (b.k + b.t) (thenH a b).k ((thenH a b).k + (thenH a b).t) At Bt T P hi (by omega) (by omega) (by omega) hk hs hp
    have e0 : outC b (outT a t) 0 = outC (thenH a b) t 0 := by rw [outC_at, c'.1, outC_at, outC_at]; exact A 0 _ _ _ _ (by omega) p0
    have e1 : outC b (outT a t) 1 = outC (thenH a b) t 1 := by rw [outC_at, c'.2.1, outC_at, outC_at]; exact A 1 _ _ _ _ (by omega) p1
    have e2 : outC b (outT a t) 2 = outC (thenH a b) t 2 := by rw [outC_at, c'.2.2.1, outC_at, outC_at]; exact A 2 _ _ _ _ (by omega) p2
    have e3 : outC b (outT a t) 3 = outC (thenH a b) t 3 := by rw [outC_at, c'.2.2.2, outC_at, outC_at]; exact A 3 _ _ _ _ (by omega) p3
    have l : outT b (outT a t) = TV.mk (b.k + b.t) (outC b (outT a t) 0) (outC b (outT a t) 1) (outC b (outT a t) 2) (outC b (outT a t) 3) := rfl
    rw [l, e0, e1, e2, e3, ← hs]
    rfl
  have e : applyOk b (outT a t) = applyOk (thenH a b) t := by
    have h1 : (outT a t).d = b.f := hg
    unfold applyOk
    rw [hO, rb, ot, rt, tt, hf, hd, h1]
    simp only [Bool.true_and, beq_self_eq_true]
  refine ⟨e, ?_⟩
  unfold applyT
  rw [e, hO]

theorem arith_assoc (i kb kc kbc At Bt Ct P Q X Y : Int) (hk : kbc = if kc < kb then kc else kb) (hp : i < kc → P = if i < kb then Bt + At else Bt) (hq : Q = if i < kc then Ct + Bt else Ct)
    (hx : X = if i < kc then Ct + P else Ct) (hy : Y = if i < kbc then Q + At else Q) : X = Y := by
  have hk' : (kc < kb ∧ kbc = kc) ∨ (kb ≤ kc ∧ kbc = kb) := by
    rw [hk]; split
    · exact Or.inl ⟨by assumption, rfl⟩
    · exact Or.inr ⟨by omega, rfl⟩
  clear hk
  by_cases h2 : i < kc
  · have hp' := hp h2
    clear hp
    rw [if_pos h2] at hq hx
    split at hp' <;> split at hy <;> omega
  · clear hp
    rw [if_neg h2] at hq hx
    split at hy <;> omega
/-- in what grouping three steps are put together is one -/
theorem then_assoc {a b c : HV} (o1 : thenOk a b = true) (o2 : thenOk b c = true) (o3 : thenOk (thenV a b) c = true) (o4 : thenOk a (thenV b c) = true) :
    thenV (thenV a b) c = thenV a (thenV b c) := by
  rw [thenV_ok o1] at o3 ⊢
  rw [thenV_ok o2] at o4 ⊢
  rw [thenV_ok o3, thenV_ok o4]
  obtain ⟨ra, rb, g1, r1⟩ := (thenOk_iff _ _).1 o1
  obtain ⟨_, rc, g2, r2⟩ := (thenOk_iff _ _).1 o2
  obtain ⟨_, _, g3, r3⟩ := (thenOk_iff _ _).1 o3
  obtain ⟨_, _, g4, r4⟩ := (thenOk_iff _ _).1 o4
  obtain ⟨f1, k1, s1, p0, p1, p2, p3⟩ := then_at o1
  obtain ⟨f2, k2, s2, q0, q1, q2, q3⟩ := then_at o2
  obtain ⟨f3, k3, s3, x0, x1, x2, x3⟩ := then_at o3
  obtain ⟨f4, k4, s4, y0, y1, y2, y3⟩ := then_at o4
  have sa := right_size (shape_of ra); have sb := right_size (shape_of rb); have sc := right_size (shape_of rc)
  have hkk : (thenH (thenH a b) c).k = (thenH a (thenH b c)).k := by
    rw [k3, k4, k1, k2]; unfold imin; clear p0 p1 p2 p3 q0 q1 q2 q3 x0 x1 x2 x3 y0 y1 y2 y3; omega
  have hcb : c.k ≤ b.k + b.t := by omega
  refine hv_ext (shape_of r3) (shape_of r4) (by rw [f3, f1, f4]) hkk (by omega) ?_ ?_ ?_ ?_
  · intro h; rw [s3] at h; exact arith_assoc 0 b.k c.k _ (a.at 0) (b.at 0) (c.at 0) _ _ _ _ k2 (fun hi => p0 (by omega)) (q0 h) (x0 h) (y0 (by omega))
  · intro h; rw [s3] at h; exact arith_assoc 1 b.k c.k _ (a.at 1) (b.at 1) (c.at 1) _ _ _ _ k2 (fun hi => p1 (by omega)) (q1 h) (x1 h) (y1 (by omega))
  · intro h; rw [s3] at h; exact arith_assoc 2 b.k c.k _ (a.at 2) (b.at 2) (c.at 2) _ _ _ _ k2 (fun hi => p2 (by omega)) (q2 h) (x2 h) (y2 (by omega))
  · intro h; rw [s3] at h; exact arith_assoc 3 b.k c.k _ (a.at 3) (b.at 3) (c.at 3) _ _ _ _ k2 (fun hi => p3 (by omega)) (q3 h) (x3 h) (y3 (by omega))

/-- steps put together keep the order of steps: ahead of one step -/
theorem keeps_left {a b c : HV} (h : leH a b = true) (o1 : thenOk a c = true) (o2 : thenOk b c = true) : leH (thenV a c) (thenV b c) = true := by
  rw [leH_eq, decide_eq_true_eq] at h
  obtain ⟨ra, rb, hf, hg, l0, l1, l2, l3⟩ := h
  obtain ⟨_, rc, g1, r1⟩ := (thenOk_iff _ _).1 o1
  obtain ⟨_, _, g2, r2⟩ := (thenOk_iff _ _).1 o2
  rw [thenV_ok o1, thenV_ok o2]
  obtain ⟨f1, k1, s1, p0, p1, p2, p3⟩ := then_at o1
  obtain ⟨f2, k2, s2, q0, q1, q2, q3⟩ := then_at o2
  have sa := right_size (shape_of ra); have sb := right_size (shape_of rb); have sc := right_size (shape_of rc)
  unfold cmb at *
  unfold imin at k1 k2
  rw [leH_eq]
  refine decide_eq_true ⟨r1, r2, by rw [f1, f2, hf], by rw [s1, s2], ?_, ?_, ?_, ?_⟩
  · intro h; rw [s1] at h; rw [p0 h, q0 h]; clear p0 p1 p2 p3 q0 q1 q2 q3 l1 l2 l3; omega
  · intro h; rw [s1] at h; rw [p1 h, q1 h]; clear p0 p1 p2 p3 q0 q1 q2 q3 l0 l2 l3; omega
  · intro h; rw [s1] at h; rw [p2 h, q2 h]; clear p0 p1 p2 p3 q0 q1 q2 q3 l0 l1 l3; omega
  · intro h; rw [s1] at h; rw [p3 h, q3 h]; clear p0 p1 p2 p3 q0 q1 q2 q3 l0 l1 l2; omega
/-- .. and behind one -/
theorem keeps_right {a b c : HV} (h : leH a b = true) (o1 : thenOk c a = true) (o2 : thenOk c b = true) : leH (thenV c a) (thenV c b) = true := by
  rw [leH_eq, decide_eq_true_eq] at h
  obtain ⟨ra, rb, hf, hg, l0, l1, l2, l3⟩ := h
  obtain ⟨rc, _, g1, r1⟩ := (thenOk_iff _ _).1 o1
  obtain ⟨_, _, g2, r2⟩ := (thenOk_iff _ _).1 o2
  rw [thenV_ok o1, thenV_ok o2]
  obtain ⟨f1, k1, s1, p0, p1, p2, p3⟩ := then_at o1
  obtain ⟨f2, k2, s2, q0, q1, q2, q3⟩ := then_at o2
  have sa := right_size (shape_of ra); have sb := right_size (shape_of rb); have sc := right_size (shape_of rc)
  have z0 := at_bound (shape_of rc) 0; have z1 := at_bound (shape_of rc) 1; have z2 := at_bound (shape_of rc) 2; have z3 := at_bound (shape_of rc) 3
  unfold cmb at *
  unfold imin at k1 k2
  rw [leH_eq]
  refine decide_eq_true ⟨r1, r2, by rw [f1, f2], by rw [s1, s2, hg], ?_, ?_, ?_, ?_⟩
  · intro h; rw [s1] at h; rw [p0 h, q0 (by omega)]; clear p0 p1 p2 p3 q0 q1 q2 q3 l1 l2 l3; omega
  · intro h; rw [s1] at h; rw [p1 h, q1 (by omega)]; clear p0 p1 p2 p3 q0 q1 q2 q3 l0 l2 l3; omega
  · intro h; rw [s1] at h; rw [p2 h, q2 (by omega)]; clear p0 p1 p2 p3 q0 q1 q2 q3 l0 l1 l3; omega
  · intro h; rw [s1] at h; rw [p3 h, q3 (by omega)]; clear p0 p1 p2 p3 q0 q1 q2 q3 l0 l1 l2; omega
end Go.Proofs.YtjaahmgokiobjaaGreat
