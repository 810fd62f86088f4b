import Derived.Test.YtimfpbmlbihlnaaH7
namespace Go.Proofs.Ytimfpbmlbihlnaa
open Go.RowKit
set_option linter.unusedVariables false
set_option linter.unusedSimpArgs false

theorem coord_out (h : HV) (t : TV) : (outT h t).coord 0 = outC h t 0 ∧ (outT h t).coord 1 = outC h t 1 ∧ (outT h t).coord 2 = outC h t 2 ∧ (outT h t).coord 3 = outC h t 3 := by
  simp [TV.coord, outT]
theorem coord_is (t : TV) : t.coord 0 = t.c0 ∧ t.coord 1 = t.c1 ∧ t.coord 2 = t.c2 ∧ t.coord 3 = t.c3 := by simp [TV.coord]
theorem tright {t : TV} (h : t.rightB = true) : rightP t.d t.c0 t.c1 t.c2 t.c3 := right_of' h
theorem tpos {t : TV} (h : t.rightB = true) : 0 ≤ t.c0 ∧ 0 ≤ t.c1 ∧ 0 ≤ t.c2 ∧ 0 ≤ t.c3 := by have r := tright h; unfold rightP at r; omega
theorem applyOk_iff (h : HV) (t : TV) : applyOk h t = true ↔ h.rightB = true ∧ t.rightB = true ∧ t.d = h.f ∧ (outT h t).rightB = true := by
  simp [applyOk, and_assoc]
theorem thenOk_iff (a b : HV) : thenOk a b = true ↔ a.rightB = true ∧ b.rightB = true ∧ a.k + a.t = b.f ∧ (thenH a b).rightB = true := by
  simp [thenOk, and_assoc]
theorem gate_tv (t : TV) : TV.gate true t = t := rfl
theorem applyT_ok {h : HV} {t : TV} (o : applyOk h t = true) : applyT h t = outT h t := by unfold applyT; rw [o]; rfl
theorem thenV_ok {a b : HV} (o : thenOk a b = true) : thenV a b = thenH a b := by unfold thenV; rw [o]; rfl

/-- the places of two steps put together, by its numbers -/
theorem then_at {a b : HV} (o : thenOk a b = true) :
    (thenH a b).f = a.f ∧ (thenH a b).k = imin a.k b.k ∧ (thenH a b).k + (thenH a b).t = b.k + b.t ∧
    (0 < b.k + b.t → (thenH a b).at 0 = cmb 0 b.k (a.at 0) (b.at 0)) ∧ (1 < b.k + b.t → (thenH a b).at 1 = cmb 1 b.k (a.at 1) (b.at 1)) ∧
    (2 < b.k + b.t → (thenH a b).at 2 = cmb 2 b.k (a.at 2) (b.at 2)) ∧ (3 < b.k + b.t → (thenH a b).at 3 = cmb 3 b.k (a.at 3) (b.at 3)) := by
  obtain ⟨ha, hb, _, _⟩ := (thenOk_iff a b).1 o
  have sa := right_size (shape_of ha); have sb := right_size (shape_of hb)
  have hm : 0 ≤ imin a.k b.k ∧ imin a.k b.k ≤ 4 ∧ imin a.k b.k ≤ b.k + b.t := by unfold imin; split <;> omega
  have h := at_then a.f (imin a.k b.k) (b.k + b.t) b.k (a.at 0) (a.at 1) (a.at 2) (a.at 3) (b.at 0) (b.at 1) (b.at 2) (b.at 3) hm.1 hm.2.1 hm.2.2 (by omega)
  exact ⟨rfl, rfl, by show imin a.k b.k + (b.k + b.t - imin a.k b.k) = _; omega, h⟩

/-- a step keeps the order of timestamps -/
theorem keeps_time {h : HV} {t u : TV} (hle : leT t u = true) (ho : applyOk h u = true) : applyOk h t = true ∧ leT (applyT h t) (applyT h u) = true := by
  rw [leT_eq, decide_eq_true_eq] at hle
  obtain ⟨hd, ht, hu, l0, l1, l2, l3⟩ := hle
  obtain ⟨hr, _, hf, hO⟩ := (applyOk_iff h u).1 ho
  have b0 := at_bound (shape_of hr) 0; have b1 := at_bound (shape_of hr) 1; have b2 := at_bound (shape_of hr) 2; have b3 := at_bound (shape_of hr) 3
  have p := tpos ht
  have e : ∀ i, outC h t i = _ := outC_at h t
  have e' : ∀ i, outC h u i = _ := outC_at h u
  have c := coord_is t; have c' := coord_is u
  have le : (outT h t).c0 ≤ (outT h u).c0 ∧ (outT h t).c1 ≤ (outT h u).c1 ∧ (outT h t).c2 ≤ (outT h u).c2 ∧ (outT h t).c3 ≤ (outT h u).c3 ∧ 0 ≤ (outT h t).c0 ∧ 0 ≤ (outT h t).c1 ∧ 0 ≤ (outT h t).c2 ∧ 0 ≤ (outT h t).c3 := by
    simp only [outT, e, e', c.1, c.2.1, c.2.2.1, c.2.2.2, c'.1, c'.2.1, c'.2.2.1, c'.2.2.2]
    omega
  have hot : (outT h t).rightB = true := by
    have r := tright hO
    apply decide_eq_true
    unfold rightP at r ⊢
    have : (outT h t).d = (outT h u).d := rfl
    rw [this]
    omega
  have ok : applyOk h t = true := (applyOk_iff h t).2 ⟨hr, ht, hd.trans hf, hot⟩
  refine ⟨ok, ?_⟩
  rw [applyT_ok ok, applyT_ok ho, leT_eq]
  exact decide_eq_true ⟨rfl, hot, hO, le.1, le.2.1, le.2.2.1, le.2.2.2.1⟩

/-- of two steps in order what they make is in order -/
theorem order_time {a b : HV} {t : TV} (hle : leH a b = true) (ha : applyOk a t = true) (hb : applyOk b t = true) : leT (applyT a t) (applyT b t) = true := by
  rw [leH_eq, decide_eq_true_eq] at hle
  obtain ⟨_, _, hf, hg, l0, l1, l2, l3⟩ := hle
  obtain ⟨ra, rt, da, oa⟩ := (applyOk_iff a t).1 ha
  obtain ⟨rb, _, db, ob⟩ := (applyOk_iff b t).1 hb
  have p := tpos rt
  have sa := right_size (shape_of ra); have sb := right_size (shape_of rb)
  have c := coord_is t
  rw [applyT_ok ha, applyT_ok hb, leT_eq]
  refine decide_eq_true ⟨hg, oa, ob, ?_⟩
  simp only [outT, outC_at, c.1, c.2.1, c.2.2.1, c.2.2.2]
  omega

/-- steps in order, both at or before the other, that keep as many: they are one -/
theorem order_one {a b : HV} (h : leH a b = true) (h' : leH b a = true) (hk : a.k = b.k) : a = b := by
  rw [leH_eq, decide_eq_true_eq] at h h'
  obtain ⟨ra, rb, hf, hg, l0, l1, l2, l3⟩ := h
  obtain ⟨_, _, _, _, k0, k1, k2, k3⟩ := h'
  exact hv_ext (shape_of ra) (shape_of rb) hf hk (by omega) (by omega) (by omega) (by omega) (by omega)
theorem order_self {a : HV} (r : a.rightB = true) : leH a a = true := by
  rw [leH_eq]
  exact decide_eq_true ⟨r, r, rfl, rfl, by omega, by omega, by omega, by omega⟩
/-- at 0 -/
theorem order_zero {a b : HV} (hf : a.f = b.f) (hk : a.k = b.k) (ha : applyOk a ⟨a.f, 0, 0, 0, 0⟩ = true) (hb : applyOk b ⟨a.f, 0, 0, 0, 0⟩ = true) :
    leH a b = leT (applyT a ⟨a.f, 0, 0, 0, 0⟩) (applyT b ⟨a.f, 0, 0, 0, 0⟩) := by
  obtain ⟨ra, rt, da, oa⟩ := (applyOk_iff _ _).1 ha
  obtain ⟨rb, _, db, ob⟩ := (applyOk_iff _ _).1 hb
  have sa := right_size (shape_of ra); have sb := right_size (shape_of rb)
  rw [applyT_ok ha, applyT_ok hb, leT_eq, leH_eq, decide_eq_decide]
  have c := coord_is ⟨a.f, 0, 0, 0, 0⟩
  simp only at c
  constructor
  · rintro ⟨_, _, _, hg, l0, l1, l2, l3⟩
    refine ⟨hg, oa, ob, ?_⟩
    simp only [outT, outC_at, c.1, c.2.1, c.2.2.1, c.2.2.2]
    omega
  · rintro ⟨hg, _, _, l⟩
    have hg' : a.k + a.t = b.k + b.t := hg
    simp only [outT, outC_at, c.1, c.2.1, c.2.2.1, c.2.2.2] at l
    exact ⟨ra, rb, hf, hg', by omega, by omega, by omega, by omega⟩

theorem arith_time (i ka ga kb gb kt gt At Bt T P : Int) (hi : 0 ≤ i) (hka : ka ≤ ga) (hkb : kb ≤ gb) (hbk : kb ≤ ga) (hk : kt = if kb < ka then kb else ka) (hs : gt = gb) (hp : i < gb → P = if i < kb then Bt + At else Bt) :
    (if i < kb then Bt + (if i < ka then At + T else if i < ga then At else 0) else if i < gb then Bt else 0) = (if i < kt then P + T else if i < gt then P else 0) := by
  subst hs
  have hk' : (kb < ka ∧ kt = kb) ∨ (ka ≤ kb ∧ kt = ka) := by
    rw [hk]; split
    · exact Or.inl ⟨by assumption, rfl⟩
    · exact Or.inr ⟨by omega, rfl⟩
  clear hk
  by_cases h1 : i < gt
  · have hp' := hp h1
    clear hp
    split at hp' <;> (repeat' split) <;> omega
  · clear hp
    (repeat' split) <;> omega
/-- two steps put together do what they do one behind the other -/
theorem then_time {a b : HV} {t : TV} (o : thenOk a b = true) (oa : applyOk a t = true) :
    applyOk b (applyT a t) = applyOk (thenV a b) t ∧ applyT b (applyT a t) = applyT (thenV a b) t := by
  obtain ⟨ra, rb, hg, rt⟩ := (thenOk_iff a b).1 o
  obtain ⟨_, tt, hd, ot⟩ := (applyOk_iff a t).1 oa
  rw [applyT_ok oa, thenV_ok o]
  obtain ⟨hf, hk, hs, p0, p1, p2, p3⟩ := then_at o
  have sa := right_size (shape_of ra); have sb := right_size (shape_of rb)
  have hO : outT b (outT a t) = outT (thenH a b) t := by
    have c' := coord_out a t
    have A := fun i At Bt T P (hi : 0 ≤ i) hp => arith_time i a.k (a.k + a.t) b.k (b.k + b.t) (thenH a b).k ((thenH a b).k + (thenH a b).t) At Bt T P hi (by omega) (by omega) (by omega) hk hs hp
    have e0 : outC b (outT a t) 0 = outC (thenH a b) t 0 := by rw [outC_at, c'.1, outC_at, outC_at]; exact A 0 _ _ _ _ (by omega) p0
    have e1 : outC b (outT a t) 1 = outC (thenH a b) t 1 := by rw [outC_at, c'.2.1, outC_at, outC_at]; exact A 1 _ _ _ _ (by omega) p1
    have e2 : outC b (outT a t) 2 = outC (thenH a b) t 2 := by rw [outC_at, c'.2.2.1, outC_at, outC_at]; exact A 2 _ _ _ _ (by omega) p2
    have e3 : outC b (outT a t) 3 = outC (thenH a b) t 3 := by rw [outC_at, c'.2.2.2, outC_at, outC_at]; exact A 3 _ _ _ _ (by omega) p3
    have l : outT b (outT a t) = TV.mk (b.k + b.t) (outC b (outT a t) 0) (outC b (outT a t) 1) (outC b (outT a t) 2) (outC b (outT a t) 3) := rfl
    rw [l, e0, e1, e2, e3, ← hs]
    rfl
  have e : applyOk b (outT a t) = applyOk (thenH a b) t := by
    have h1 : (outT a t).d = b.f := hg
    unfold applyOk
    rw [hO, rb, ot, rt, tt, hf, hd, h1]
    simp only [Bool.true_and, beq_self_eq_true]
  refine ⟨e, ?_⟩
  unfold applyT
  rw [e, hO]

theorem arith_assoc (i kb kc kbc At Bt Ct P Q X Y : Int) (hk : kbc = if kc < kb then kc else kb) (hp : i < kc → P = if i < kb then Bt + At else Bt) (hq : Q = if i < kc then Ct + Bt else Ct)
    (hx : X = if i < kc then Ct + P else Ct) (hy : Y = if i < kbc then Q + At else Q) : X = Y := by
  have hk' : (kc < kb ∧ kbc = kc) ∨ (kb ≤ kc ∧ kbc = kb) := by
    rw [hk]; split
    · exact Or.inl ⟨by assumption, rfl⟩
    · exact Or.inr ⟨by omega, rfl⟩
  clear hk
  by_cases h2 : i < kc
  · have hp' := hp h2
    clear hp
    rw [if_pos h2] at hq hx
    split at hp' <;> split at hy <;> omega
  · clear hp
    rw [if_neg h2] at hq hx
    split at hy <;> omega
/-- in what grouping three steps are put together is one -/
theorem then_assoc {a b c : HV} (o1 : thenOk a b = true) (o2 : thenOk b c = true) (o3 : thenOk (thenV a b) c = true) (o4 : thenOk a (thenV b c) = true) :
    thenV (thenV a b) c = thenV a (thenV b c) := by
  rw [thenV_ok o1] at o3 ⊢
  rw [thenV_ok o2] at o4 ⊢
  rw [thenV_ok o3, thenV_ok o4]
  obtain ⟨ra, rb, g1, r1⟩ := (thenOk_iff _ _).1 o1
  obtain ⟨_, rc, g2, r2⟩ := (thenOk_iff _ _).1 o2
  obtain ⟨_, _, g3, r3⟩ := (thenOk_iff _ _).1 o3
  obtain ⟨_, _, g4, r4⟩ := (thenOk_iff _ _).1 o4
  obtain ⟨f1, k1, s1, p0, p1, p2, p3⟩ := then_at o1
  obtain ⟨f2, k2, s2, q0, q1, q2, q3⟩ := then_at o2
  obtain ⟨f3, k3, s3, x0, x1, x2, x3⟩ := then_at o3
  obtain ⟨f4, k4, s4, y0, y1, y2, y3⟩ := then_at o4
  have sa := right_size (shape_of ra); have sb := right_size (shape_of rb); have sc := right_size (shape_of rc)
  have hkk : (thenH (thenH a b) c).k = (thenH a (thenH b c)).k := by
    rw [k3, k4, k1, k2]; unfold imin; clear p0 p1 p2 p3 q0 q1 q2 q3 x0 x1 x2 x3 y0 y1 y2 y3; omega
  have hcb : c.k ≤ b.k + b.t := by omega
  refine hv_ext (shape_of r3) (shape_of r4) (by rw [f3, f1, f4]) hkk (by omega) ?_ ?_ ?_ ?_
  · intro h; rw [s3] at h; exact arith_assoc 0 b.k c.k _ (a.at 0) (b.at 0) (c.at 0) _ _ _ _ k2 (fun hi => p0 (by omega)) (q0 h) (x0 h) (y0 (by omega))
  · intro h; rw [s3] at h; exact arith_assoc 1 b.k c.k _ (a.at 1) (b.at 1) (c.at 1) _ _ _ _ k2 (fun hi => p1 (by omega)) (q1 h) (x1 h) (y1 (by omega))
  · intro h; rw [s3] at h; exact arith_assoc 2 b.k c.k _ (a.at 2) (b.at 2) (c.at 2) _ _ _ _ k2 (fun hi => p2 (by omega)) (q2 h) (x2 h) (y2 (by omega))
  · intro h; rw [s3] at h; exact arith_assoc 3 b.k c.k _ (a.at 3) (b.at 3) (c.at 3) _ _ _ _ k2 (fun hi => p3 (by omega)) (q3 h) (x3 h) (y3 (by omega))

/-- steps put together keep the order of steps: ahead of one step -/
theorem keeps_left {a b c : HV} (h : leH a b = true) (o1 : thenOk a c = true) (o2 : thenOk b c = true) : leH (thenV a c) (thenV b c) = true := by
  rw [leH_eq, decide_eq_true_eq] at h
  obtain ⟨ra, rb, hf, hg, l0, l1, l2, l3⟩ := h
  obtain ⟨_, rc, g1, r1⟩ := (thenOk_iff _ _).1 o1
  obtain ⟨_, _, g2, r2⟩ := (thenOk_iff _ _).1 o2
  rw [thenV_ok o1, thenV_ok o2]
  obtain ⟨f1, k1, s1, p0, p1, p2, p3⟩ := then_at o1
  obtain ⟨f2, k2, s2, q0, q1, q2, q3⟩ := then_at o2
  have sa := right_size (shape_of ra); have sb := right_size (shape_of rb); have sc := right_size (shape_of rc)
  unfold cmb at *
  unfold imin at k1 k2
  rw [leH_eq]
  refine decide_eq_true ⟨r1, r2, by rw [f1, f2, hf], by rw [s1, s2], ?_, ?_, ?_, ?_⟩
  · intro h; rw [s1] at h; rw [p0 h, q0 h]; clear p0 p1 p2 p3 q0 q1 q2 q3 l1 l2 l3; omega
  · intro h; rw [s1] at h; rw [p1 h, q1 h]; clear p0 p1 p2 p3 q0 q1 q2 q3 l0 l2 l3; omega
  · intro h; rw [s1] at h; rw [p2 h, q2 h]; clear p0 p1 p2 p3 q0 q1 q2 q3 l0 l1 l3; omega
  · intro h; rw [s1] at h; rw [p3 h, q3 h]; clear p0 p1 p2 p3 q0 q1 q2 q3 l0 l1 l2; omega
/-- .. and behind one -/
theorem keeps_right {a b c : HV} (h : leH a b = true) (o1 : thenOk c a = true) (o2 : thenOk c b = true) : leH (thenV c a) (thenV c b) = true := by
  rw [leH_eq, decide_eq_true_eq] at h
  obtain ⟨ra, rb, hf, hg, l0, l1, l2, l3⟩ := h
  obtain ⟨rc, _, g1, r1⟩ := (thenOk_iff _ _).1 o1
  obtain ⟨_, _, g2, r2⟩ := (thenOk_iff _ _).1 o2
  rw [thenV_ok o1, thenV_ok o2]
  obtain ⟨f1, k1, s1, p0, p1, p2, p3⟩ := then_at o1
  obtain ⟨f2, k2, s2, q0, q1, q2, q3⟩ := then_at o2
  have sa := right_size (shape_of ra); have sb := right_size (shape_of rb); have sc := right_size (shape_of rc)
  have z0 := at_bound (shape_of rc) 0; have z1 := at_bound (shape_of rc) 1; have z2 := at_bound (shape_of rc) 2; have z3 := at_bound (shape_of rc) 3
  unfold cmb at *
  unfold imin at k1 k2
  rw [leH_eq]
  refine decide_eq_true ⟨r1, r2, by rw [f1, f2], by rw [s1, s2, hg], ?_, ?_, ?_, ?_⟩
  · intro h; rw [s1] at h; rw [p0 h, q0 (by omega)]; clear p0 p1 p2 p3 q0 q1 q2 q3 l1 l2 l3; omega
  · intro h; rw [s1] at h; rw [p1 h, q1 (by omega)]; clear p0 p1 p2 p3 q0 q1 q2 q3 l0 l2 l3; omega
  · intro h; rw [s1] at h; rw [p2 h, q2 (by omega)]; clear p0 p1 p2 p3 q0 q1 q2 q3 l0 l1 l3; omega
  · intro h; rw [s1] at h; rw [p3 h, q3 (by omega)]; clear p0 p1 p2 p3 q0 q1 q2 q3 l0 l1 l2; omega
end Go.Proofs.Ytimfpbmlbihlnaa
