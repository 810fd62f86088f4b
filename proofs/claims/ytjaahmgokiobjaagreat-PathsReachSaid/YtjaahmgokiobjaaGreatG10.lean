/- plain: ways along edges; each has a short one at or before it -/
import Derived.Test.YtjaahmgokiobjaaGreatG09
namespace Go.Proofs.YtjaahmgokiobjaaGreat
open Go.RowKit
set_option linter.unusedVariables false
set_option linter.unusedSimpArgs false

/-- an edge, as a step from place to place -/
structure NE where
  src : Nat
  dst : Nat
  s : HV
/-- edges between places of these depths -/
structure Fine (E : List NE) (D : Nat → Int) (N : Nat) : Prop where
  lt : ∀ e ∈ E, e.src < N ∧ e.dst < N
  right : ∀ e ∈ E, e.s.rightB = true
  takes : ∀ e ∈ E, e.s.f = D e.src ∧ e.s.k + e.s.t = D e.dst
  keeps : ∀ e ∈ E, D e.src ≤ e.s.k ∨ D e.dst ≤ e.s.k
  small : ∀ e ∈ E, ∀ j : Nat, (j : Int) < D e.dst → e.s.at j ≤ 1
  depth : ∀ v, v < N → 1 ≤ D v ∧ D v ≤ 4
/-- where one comes along edges, and by which step -/
def run : Nat → HV → List NE → Option (Nat × HV)
  | v, x, [] => some (v, x)
  | v, x, e :: es => if e.src = v ∧ thenOk x e.s = true then run e.dst (thenV x e.s) es else none
theorem run_append : ∀ {es fs : List NE} {v : Nat} {x : HV}, run v x (es ++ fs) = (run v x es).bind fun p => run p.1 p.2 fs
  | [], fs, v, x => rfl
  | e :: es, fs, v, x => by
    simp only [List.cons_append, run]
    split
    · exact run_append
    · rfl
def endOf : Nat → List NE → Nat
  | v, [] => v
  | _, e :: es => endOf e.dst es
theorem run_end : ∀ {es : List NE} {v : Nat} {x : HV} {m : Nat} {h : HV}, run v x es = some (m, h) → m = endOf v es
  | [], v, x, m, h, q => by
    simp only [run, Option.some.injEq, Prod.mk.injEq] at q
    exact q.1.symm
  | e :: es, v, x, m, h, q => by
    simp only [run] at q
    split at q
    · show m = endOf e.dst es
      exact run_end q
    · cases q
/-- the least depth from here on -/
def sm (D : Nat → Int) : Nat → List NE → Int
  | v, [] => D v
  | v, e :: es => if D v < sm D e.dst es then D v else sm D e.dst es
theorem sm_le {D : Nat → Int} : ∀ {es : List NE} {v : Nat}, sm D v es ≤ D v
  | [], v => Int.le_refl _
  | e :: es, v => by simp only [sm]; split <;> omega
theorem sm_tail {D : Nat → Int} {e : NE} {es : List NE} {v : Nat} : sm D v (e :: es) ≤ sm D e.dst es := by simp only [sm]; split <;> omega
theorem sm_left {D : Nat → Int} : ∀ {es fs : List NE} {v : Nat}, sm D v (es ++ fs) ≤ sm D v es
  | [], fs, v => sm_le
  | e :: es, fs, v => by
    have := sm_left (es := es) (fs := fs) (v := e.dst) (D := D)
    simp only [List.cons_append, sm]
    split <;> split <;> omega
theorem sm_some {D : Nat → Int} {a b : Int} : ∀ {es : List NE} {v : Nat}, (∀ e ∈ es, a ≤ D e.dst ∧ D e.dst ≤ b) → a ≤ D v ∧ D v ≤ b → a ≤ sm D v es ∧ sm D v es ≤ b
  | [], v, _, h => h
  | e :: es, v, he, h => by
    have := sm_some (es := es) (v := e.dst) (fun x hx => he x (List.mem_cons_of_mem _ hx)) (he e List.mem_cons_self)
    simp only [sm]
    split <;> omega
/-- of the first k coordinates the one's are at or before the other's -/
def Rk (k : Int) (x y : HV) : Prop := ∀ j : Nat, (j : Int) < k → x.at j ≤ y.at j ∧ (x.k ≤ j ∨ (j : Int) < y.k)
theorem Rk.self (k : Int) (x : HV) : Rk k x x := fun j _ => ⟨Int.le_refl _, by omega⟩
theorem Rk.trans {k : Int} {x y z : HV} (h : Rk k x y) (q : Rk k y z) : Rk k x z := fun j hj => by
  have := h j hj; have := q j hj; omega
/-- whoever is at or before another one may do what that one may -/
theorem run_lower : ∀ {es : List NE} {v : Nat} {x y : HV} {m : Nat} {h : HV}, leH x y = true → run v y es = some (m, h) → ∃ x', run v x es = some (m, x') ∧ leH x' h = true
  | [], v, x, y, m, h, hl, q => by
    simp only [run, Option.some.injEq, Prod.mk.injEq] at q
    obtain ⟨rfl, rfl⟩ := q
    exact ⟨x, rfl, hl⟩
  | e :: es, v, x, y, m, h, hl, q => by
    simp only [run] at q
    split at q
    · rename_i hc
      have o := then_lower hl hc.2
      obtain ⟨x', hx, hl'⟩ := run_lower o.2 q
      refine ⟨x', ?_, hl'⟩
      simp only [run]
      rw [if_pos ⟨hc.1, o.1⟩]
      exact hx
    · cases q
section
variable {E : List NE} {D : Nat → Int} {N : Nat} (F : Fine E D N)
include F
/-- what stands in a state -/
theorem run_ok : ∀ {es : List NE} {v : Nat} {x : HV} {m : Nat} {h : HV}, (∀ e ∈ es, e ∈ E) → x.rightB = true → x.k + x.t = D v → run v x es = some (m, h) → h.rightB = true ∧ h.k + h.t = D m ∧ h.f = x.f
  | [], v, x, m, h, _, hr, hd, q => by
    simp only [run, Option.some.injEq, Prod.mk.injEq] at q
    obtain ⟨rfl, rfl⟩ := q
    exact ⟨hr, hd, rfl⟩
  | e :: es, v, x, m, h, hE, hr, hd, q => by
    simp only [run] at q
    split at q
    · rename_i hc
      have f := thenV_facts hc.2
      have he := F.takes e (hE e List.mem_cons_self)
      have := run_ok (fun y hy => hE y (List.mem_cons_of_mem _ hy)) f.1 (by rw [f.2.2.2.1]; exact he.2) q
      exact ⟨this.1, this.2.1, by rw [this.2.2, f.2.1]⟩
    · cases q
/-- the numbers grow by one an edge -/
theorem run_bound : ∀ {es : List NE} {v : Nat} {x : HV} {m : Nat} {h : HV} {c : Int}, (∀ e ∈ es, e ∈ E) → x.rightB = true → x.k + x.t = D v → 0 ≤ c → (∀ j : Nat, (j : Int) < x.k + x.t → x.at j ≤ c) → run v x es = some (m, h) → ∀ j : Nat, (j : Int) < h.k + h.t → h.at j ≤ c + es.length
  | [], v, x, m, h, c, _, hr, hd, h0, hb, q => by
    simp only [run, Option.some.injEq, Prod.mk.injEq] at q
    obtain ⟨rfl, rfl⟩ := q
    simpa using hb
  | e :: es, v, x, m, h, c, hE, hr, hd, h0, hb, q => by
    simp only [run] at q
    split at q
    · rename_i hc
      have f := thenV_facts hc.2
      have he := F.takes e (hE e List.mem_cons_self)
      have hs := F.small e (hE e List.mem_cons_self)
      have o := (thenOk_at _ _).1 hc.2
      have ss := right_size (shape_of o.2.1)
      have := run_bound (c := c + 1) (fun y hy => hE y (List.mem_cons_of_mem _ hy)) f.1 (by rw [f.2.2.2.1]; exact he.2) (by omega) (fun j hj => by
        rw [f.2.2.2.1] at hj
        rw [f.2.2.2.2 j hj]
        have := hs j (by omega)
        split
        · have := hb j (by omega)
          omega
        · omega) q
      intro j hj
      have := this j hj
      simp only [List.length_cons]
      omega
    · cases q
/-- what is done at depth k and deeper keeps the first k coordinates, and lets none fall -/
theorem run_keeps {k : Int} : ∀ {es : List NE} {v : Nat} {x : HV} {m : Nat} {h : HV}, (∀ e ∈ es, e ∈ E) → x.rightB = true → x.k + x.t = D v → k ≤ sm D v es → run v x es = some (m, h) → Rk k x h
  | [], v, x, m, h, _, hr, hd, hk, q => by
    simp only [run, Option.some.injEq, Prod.mk.injEq] at q
    obtain ⟨rfl, rfl⟩ := q
    exact Rk.self _ _
  | e :: es, v, x, m, h, hE, hr, hd, hk, q => by
    simp only [run] at q
    split at q
    · rename_i hc
      have f := thenV_facts hc.2
      have he := F.takes e (hE e List.mem_cons_self)
      have hkp := F.keeps e (hE e List.mem_cons_self)
      have h1 : k ≤ D v := Int.le_trans hk sm_le
      have h2 : k ≤ sm D e.dst es := Int.le_trans hk sm_tail
      have h3 : k ≤ D e.dst := Int.le_trans h2 sm_le
      rw [hc.1] at hkp
      have o := (thenOk_at _ _).1 hc.2
      refine Rk.trans ?_ (run_keeps (fun y hy => hE y (List.mem_cons_of_mem _ hy)) f.1 (by rw [f.2.2.2.1]; exact he.2) h2 q)
      intro j hj
      have b := at_bound (shape_of o.2.1) j
      rw [f.2.2.2.2 j (by omega), if_pos (by omega), f.2.2.1]
      refine ⟨by omega, ?_⟩
      unfold imin
      split <;> omega
    · cases q
/-- two that agree as far as depth k do the same, and agree wholly once they have been there -/
theorem run_lock {k : Int} : ∀ {es : List NE} {v : Nat} {x y : HV} {m : Nat} {h : HV} {c : Int}, (∀ e ∈ es, e ∈ E) → x.rightB = true → y.rightB = true → x.f = y.f → x.k + x.t = D v → y.k + y.t = D v → Rk k x y → sm D v es = k →
    0 ≤ c → (∀ j : Nat, (j : Int) < x.k + x.t → x.at j ≤ c) → c + es.length ≤ 1048576 → run v y es = some (m, h) → ∃ x', run v x es = some (m, x') ∧ leH x' h = true
  | [], v, x, y, m, h, c, _, hx, hy, hf, dx, dy, hR, hk, h0, hb, hc, q => by
    simp only [run, Option.some.injEq, Prod.mk.injEq] at q
    obtain ⟨rfl, rfl⟩ := q
    have hk' : D v = k := hk
    exact ⟨x, rfl, (leH_iff _ _).2 ⟨hx, hy, hf, dx.trans dy.symm, fun j hj => hR j (by omega)⟩⟩
  | e :: es, v, x, y, m, h, c, hE, hx, hy, hf, dx, dy, hR, hk, h0, hb, hc, q => by
    by_cases hv : D v = k
    · exact run_lower ((leH_iff _ _).2 ⟨hx, hy, hf, dx.trans dy.symm, fun j hj => hR j (by omega)⟩) q
    · have hk2 : sm D e.dst es = k := by
        simp only [sm] at hk
        split at hk <;> omega
      simp only [run] at q
      split at q
      · rename_i hcc
        have f := thenV_facts hcc.2
        have he := F.takes e (hE e List.mem_cons_self)
        have hs := F.small e (hE e List.mem_cons_self)
        have oy := (thenOk_at _ _).1 hcc.2
        have ss := right_size (shape_of oy.2.1)
        simp only [List.length_cons] at hc
        have ox : thenOk x e.s = true := (thenOk_at _ _).2 ⟨hx, oy.2.1, by omega, fun j hj => by
          have := hs j (by omega)
          have := hb j (by omega)
          omega⟩
        have g := thenV_facts ox
        obtain ⟨x', h1, h2⟩ := run_lock (k := k) (es := es) (v := e.dst) (x := thenV x e.s) (y := thenV y e.s) (m := m) (h := h) (c := c + 1) (fun z hz => hE z (List.mem_cons_of_mem _ hz)) g.1 f.1 (by rw [g.2.1, f.2.1, hf]) (by rw [g.2.2.2.1]; exact he.2) (by rw [f.2.2.2.1]; exact he.2)
          (fun j hj => by
            have hjd : (j : Int) < D e.dst := by
              have := sm_le (D := D) (es := es) (v := e.dst)
              omega
            have r := hR j hj
            rw [f.2.2.2.2 j (by omega), g.2.2.2.2 j (by omega), f.2.2.1, g.2.2.1]
            unfold imin
            split
            · refine ⟨by omega, ?_⟩
              split <;> split <;> omega
            · refine ⟨Int.le_refl _, ?_⟩
              split <;> split <;> omega) hk2 (by omega) (fun j hj => by
            rw [g.2.2.2.1] at hj
            rw [g.2.2.2.2 j hj]
            have := hs j (by omega)
            split
            · have := hb j (by omega)
              omega
            · omega) (by omega) q
        refine ⟨x', ?_, h2⟩
        simp only [run]
        rw [if_pos ⟨hcc.1, ox⟩]
        exact h1
      · cases q
end
end Go.Proofs.YtjaahmgokiobjaaGreat
/- plain: each way has a short one at or before it -/
namespace Go.Proofs.YtjaahmgokiobjaaGreat
open Go.RowKit
set_option linter.unusedVariables false
set_option linter.unusedSimpArgs false

/-- a place and the least depth from there on, as one number -/
def code (D : Nat → Int) (v : Nat) (es : List NE) : Nat := v * 4 + (sm D v es - 1).toNat
def codes (D : Nat → Int) : Nat → List NE → List Nat
  | v, [] => [code D v []]
  | v, e :: es => code D v (e :: es) :: codes D e.dst es
theorem codes_len {D : Nat → Int} : ∀ {es : List NE} {v : Nat}, (codes D v es).length = es.length + 1
  | [], v => rfl
  | e :: es, v => by simp only [codes, List.length_cons, codes_len]
theorem codes_lt {E : List NE} {D : Nat → Int} {N : Nat} (F : Fine E D N) : ∀ {es : List NE} {v : Nat}, (∀ e ∈ es, e ∈ E) → v < N → ∀ c ∈ codes D v es, c < 4 * N
  | [], v, _, hv, c, hc => by
    have d := F.depth v hv
    obtain rfl : c = code D v [] := by simpa [codes] using hc
    unfold code
    have : sm D v [] = D v := rfl
    omega
  | e :: es, v, hE, hv, c, hc => by
    have hd := (F.lt e (hE e List.mem_cons_self)).2
    rcases List.mem_cons.1 hc with rfl | hm
    · have := sm_some (D := D) (a := 1) (b := 4) (es := e :: es) (v := v) (fun x hx => F.depth _ (F.lt x (hE x hx)).2) (F.depth v hv)
      unfold code
      omega
    · exact codes_lt F (fun x hx => hE x (List.mem_cons_of_mem _ hx)) hd c hm
/-- where a number stands among the codes -/
theorem codes_mem {D : Nat → Int} : ∀ {es : List NE} {v : Nat} {c : Nat}, c ∈ codes D v es → ∃ C Q, es = C ++ Q ∧ code D (endOf v C) Q = c
  | [], v, c, hc => by
    obtain rfl : c = code D v [] := by simpa [codes] using hc
    exact ⟨[], [], rfl, rfl⟩
  | e :: es, v, c, hc => by
    rcases List.mem_cons.1 hc with rfl | hm
    · exact ⟨[], e :: es, rfl, rfl⟩
    · obtain ⟨C, Q, h1, h2⟩ := codes_mem hm
      exact ⟨e :: C, Q, by rw [h1]; rfl, h2⟩
theorem codes_twice {D : Nat → Int} : ∀ {es : List NE} {v : Nat}, ¬ (codes D v es).Nodup → ∃ P C Q, es = P ++ (C ++ Q) ∧ C ≠ [] ∧ code D (endOf v P) (C ++ Q) = code D (endOf (endOf v P) C) Q
  | [], v, h => absurd (by simp [codes]) h
  | e :: es, v, h => by
    by_cases hm : code D v (e :: es) ∈ codes D e.dst es
    · obtain ⟨C, Q, h1, h2⟩ := codes_mem hm
      refine ⟨[], e :: C, Q, by rw [h1]; rfl, by simp, ?_⟩
      show code D v (e :: (C ++ Q)) = code D (endOf e.dst C) Q
      rw [h2, ← h1]
    · have : ¬ (codes D e.dst es).Nodup := fun q => h (by
        simp only [codes]
        exact List.nodup_cons.2 ⟨hm, q⟩)
      obtain ⟨P, C, Q, h1, h2, h3⟩ := codes_twice this
      exact ⟨e :: P, C, Q, by rw [h1]; rfl, h2, h3⟩
section
variable {E : List NE} {D : Nat → Int} {N : Nat} (F : Fine E D N)
include F
theorem endOf_lt : ∀ {es : List NE} {v : Nat}, (∀ e ∈ es, e ∈ E) → v < N → endOf v es < N
  | [], v, _, h => h
  | e :: es, v, hE, _ => endOf_lt (es := es) (v := e.dst) (fun x hx => hE x (List.mem_cons_of_mem _ hx)) (F.lt e (hE e List.mem_cons_self)).2
/-- a way that is too long goes on without one of its rounds -/
theorem shorten {es : List NE} {v : Nat} {x : HV} {m : Nat} {h : HV} (hE : ∀ e ∈ es, e ∈ E) (hv : v < N) (hx : x.rightB = true) (hd : x.k + x.t = D v) (hz : ∀ j : Nat, (j : Int) < x.k + x.t → x.at j ≤ 0)
    (hlong : 4 * N < es.length + 1) (hl : es.length ≤ 100000) (q : run v x es = some (m, h)) : ∃ es' h', (∀ e ∈ es', e ∈ E) ∧ es'.length < es.length ∧ run v x es' = some (m, h') ∧ leH h' h = true := by
  have hn : ¬ (codes D v es).Nodup := fun hnd => by
    have := nodup_len (m := List.range (4 * N)) hnd (fun c hc => List.mem_range.2 (codes_lt F hE hv c hc))
    rw [codes_len, List.length_range] at this
    omega
  obtain ⟨P, C, Q, rfl, hC, hc⟩ := codes_twice hn
  have hP : ∀ e ∈ P, e ∈ E := fun e he => hE e (List.mem_append_left _ he)
  have hCE : ∀ e ∈ C, e ∈ E := fun e he => hE e (List.mem_append_right _ (List.mem_append_left _ he))
  have hQE : ∀ e ∈ Q, e ∈ E := fun e he => hE e (List.mem_append_right _ (List.mem_append_right _ he))
  have hCQ : ∀ e ∈ C ++ Q, e ∈ E := fun e he => hE e (List.mem_append_right _ he)
  rw [run_append] at q
  cases hp : run v x P with
  | none => rw [hp] at q; cases q
  | some p =>
    obtain ⟨u, y⟩ := p
    rw [hp] at q
    simp only [Option.bind_some] at q
    rw [run_append] at q
    cases hr : run u y C with
    | none => rw [hr] at q; cases q
    | some r =>
      obtain ⟨u', y'⟩ := r
      rw [hr] at q
      simp only [Option.bind_some] at q
      have hu := run_end hp
      have hu' := run_end hr
      rw [← hu, ← hu'] at hc
      have huN : u < N := by rw [hu]; exact endOf_lt F hP hv
      have huN' : u' < N := by rw [hu']; exact endOf_lt F hCE huN
      have s1 := sm_some (D := D) (a := 1) (b := 4) (es := C ++ Q) (v := u) (fun x hx => F.depth _ (F.lt x (hCQ x hx)).2) (F.depth u huN)
      have s2 := sm_some (D := D) (a := 1) (b := 4) (es := Q) (v := u') (fun x hx => F.depth _ (F.lt x (hQE x hx)).2) (F.depth u' huN')
      unfold code at hc
      have e1 : u = u' := by omega
      subst e1
      have e2 : sm D u (C ++ Q) = sm D u Q := by omega
      have oky := run_ok F hP hx hd hp
      have oky' := run_ok F hCE oky.1 oky.2.1 hr
      have hk := run_keeps F (k := sm D u Q) hCE oky.1 oky.2.1 (by rw [← e2]; exact sm_left) hr
      have hb := run_bound F (c := 0) hP hx hd (Int.le_refl _) hz hp
      simp only [List.length_append] at hl
      obtain ⟨h', h1, h2⟩ := run_lock F (c := (P.length : Int)) hQE oky.1 oky'.1 oky'.2.2.symm oky.2.1 oky'.2.1 hk rfl (by omega) (fun j hj => by have := hb j hj; omega) (by omega) q
      refine ⟨P ++ Q, h', fun e he => ?_, ?_, ?_, h2⟩
      · rcases List.mem_append.1 he with he | he
        · exact hP e he
        · exact hQE e he
      · have : 0 < C.length := List.length_pos_iff.2 hC
        simp only [List.length_append]
        omega
      · rw [run_append, hp]
        exact h1
/-- each way has one of fewer edges than four times the places at or before it -/
theorem short_way {v : Nat} {x : HV} (hv : v < N) (hx : x.rightB = true) (hd : x.k + x.t = D v) (hz : ∀ j : Nat, (j : Int) < x.k + x.t → x.at j ≤ 0) (hN : N ≤ 10000) : ∀ {c : Nat} {es : List NE} {m : Nat} {h : HV}, es.length ≤ c → (∀ e ∈ es, e ∈ E) → run v x es = some (m, h) →
    ∃ es' h', (∀ e ∈ es', e ∈ E) ∧ es'.length < 4 * N ∧ run v x es' = some (m, h') ∧ leH h' h = true
  | c, es, m, h, hc, hE, q => by
    by_cases hs : es.length < 4 * N
    · exact ⟨es, h, hE, hs, q, leH_self (run_ok F hE hx hd q).1⟩
    · have hne : es ≠ [] := fun e => by rw [e] at hs; simp at hs; omega
      cases c with
      | zero =>
        have := List.length_pos_iff.2 hne
        omega
      | succ c =>
        obtain ⟨P, e, rfl⟩ : ∃ P e, es = P ++ [e] := ⟨es.dropLast, es.getLast hne, (List.dropLast_concat_getLast hne).symm⟩
        have hPE : ∀ a ∈ P, a ∈ E := fun a ha => hE a (List.mem_append_left _ ha)
        have heE : e ∈ E := hE e (List.mem_append_right _ List.mem_cons_self)
        rw [run_append] at q
        cases hp : run v x P with
        | none => rw [hp] at q; cases q
        | some p =>
          obtain ⟨u, y⟩ := p
          rw [hp] at q
          simp only [Option.bind_some] at q
          simp only [List.length_append, List.length_singleton] at hc
          obtain ⟨P', y', hPE', hl', hp', hle⟩ := short_way hv hx hd hz hN (c := c) (by omega) hPE hp
          obtain ⟨h', hr', hle'⟩ := run_lower hle q
          have hrun : run v x (P' ++ [e]) = some (m, h') := by rw [run_append, hp']; exact hr'
          have hE' : ∀ a ∈ P' ++ [e], a ∈ E := fun a ha => by
            rcases List.mem_append.1 ha with ha | ha
            · exact hPE' a ha
            · rw [List.mem_singleton.1 ha]; exact heE
          by_cases hs2 : (P' ++ [e]).length < 4 * N
          · exact ⟨_, h', hE', hs2, hrun, hle'⟩
          · simp only [List.length_append, List.length_singleton] at hs2
            obtain ⟨es2, h2, hE2, hl2, hr2, hle2⟩ := shorten F hE' hv hx hd hz (by simp only [List.length_append, List.length_singleton]; omega) (by simp only [List.length_append, List.length_singleton]; omega) hrun
            simp only [List.length_append, List.length_singleton] at hl2
            exact ⟨es2, h2, hE2, by omega, hr2, leH_trans hle2 hle'⟩
end
end Go.Proofs.YtjaahmgokiobjaaGreat
