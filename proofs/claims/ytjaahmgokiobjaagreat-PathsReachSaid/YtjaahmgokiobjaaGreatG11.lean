/- plain: rows of lowest steps, edge by edge and round by round, as the document makes them -/
import Derived.Test.YtjaahmgokiobjaaGreatG10
import Derived.Test.YtjaahmgokiobjaaGreatG08
namespace Go.Proofs.YtjaahmgokiobjaaGreat
open Go.RowKit
set_option linter.unusedVariables false
set_option linter.unusedSimpArgs false

/-- what an edge makes of some steps -/
def along (s : HV) (l : List HV) : List HV := l.filterMap fun x => if thenOk x s = true then some (thenV x s) else none
theorem mem_along {s : HV} {l : List HV} {x : HV} : x ∈ along s l ↔ ∃ y ∈ l, thenOk y s = true ∧ thenV y s = x := by
  unfold along
  rw [List.mem_filterMap]
  constructor
  · rintro ⟨y, hy, h⟩
    split at h
    · rename_i ho
      exact ⟨y, hy, ho, Option.some.inj h⟩
    · cases h
  · rintro ⟨y, hy, ho, h⟩
    exact ⟨y, hy, by rw [if_pos ho, h]⟩
theorem along_len (s : HV) (l : List HV) : (along s l).length ≤ l.length := List.length_filterMap_le _ _
theorem along_take (s : HV) (l : List HV) (k : Nat) (hk : k < l.length) : along s (l.take (k + 1)) = along s (l.take k) ++ (if thenOk l[k]! s = true then [thenV l[k]! s] else []) := by
  unfold along
  rw [take_getA l k hk, List.filterMap_append]
  congr 1
  simp only [List.filterMap_cons, List.filterMap_nil]
  split
  · rename_i h; split at h <;> simp_all
  · rename_i h; split at h <;> simp_all
/-- the steps at each place, with what the first edges make of those of row -/
def ext (row : List (List HV)) (next : List (List HV)) (E : List NE) : List (List HV) := E.foldl (fun nx e => nx.set e.dst (nx[e.dst]! ++ along e.s row[e.src]!)) next
instance : Inhabited NE := ⟨⟨0, 0, HV.zero⟩⟩
theorem ext_take (row next : List (List HV)) (E : List NE) (j : Nat) (hj : j < E.length) : ext row next (E.take (j + 1)) = (ext row next (E.take j)).set (E[j]!).dst ((ext row next (E.take j))[(E[j]!).dst]! ++ along (E[j]!).s row[(E[j]!).src]!) := by
  unfold ext
  rw [take_getA E j hj, List.foldl_append]
  rfl
theorem ext_len (row : List (List HV)) : ∀ (E : List NE) (next : List (List HV)), (ext row next E).length = next.length
  | [], next => rfl
  | e :: E, next => by
    have := ext_len row E (next.set e.dst (next[e.dst]! ++ along e.s row[e.src]!))
    rw [List.length_set] at this
    exact this
theorem set_get {α : Type} [Inhabited α] (l : List α) (i j : Nat) (x : α) (hi : i < l.length) : (l.set i x)[j]! = if i = j then x else l[j]! := by
  by_cases e : i = j
  · subst e
    rw [if_pos rfl, getElem!_pos _ i (by rw [List.length_set]; exact hi), List.getElem_set_self]
  · rw [if_neg e]
    by_cases hj : j < l.length
    · rw [getElem!_pos _ j (by rw [List.length_set]; exact hj), getElem!_pos l j hj, List.getElem_set_ne e]
    · rw [getElem!_neg _ j (by rw [List.length_set]; exact hj), getElem!_neg l j hj]
theorem set_same {α : Type} [Inhabited α] (l : List α) (i : Nat) (hi : i < l.length) : l.set i l[i]! = l := by
  rw [getElem!_pos l i hi]
  exact List.set_getElem_self hi
theorem ext_mem (row : List (List HV)) : ∀ (E : List NE) (next : List (List HV)), (∀ e ∈ E, e.dst < next.length) → ∀ m x, x ∈ (ext row next E)[m]! ↔ x ∈ next[m]! ∨ ∃ e ∈ E, e.dst = m ∧ x ∈ along e.s row[e.src]!
  | [], next, _, m, x => by simp [ext]
  | e :: E, next, h, m, x => by
    have hd := h e List.mem_cons_self
    have := ext_mem row E (next.set e.dst (next[e.dst]! ++ along e.s row[e.src]!)) (fun a ha => by rw [List.length_set]; exact h a (List.mem_cons_of_mem _ ha)) m x
    show x ∈ (ext row (next.set e.dst (next[e.dst]! ++ along e.s row[e.src]!)) E)[m]! ↔ _
    rw [this, set_get _ _ _ _ hd]
    constructor
    · rintro (h1 | ⟨a, ha, h1, h2⟩)
      · split at h1
        · rename_i e1
          subst e1
          rcases List.mem_append.1 h1 with h1 | h1
          · exact .inl h1
          · exact .inr ⟨e, List.mem_cons_self, rfl, h1⟩
        · exact .inl h1
      · exact .inr ⟨a, List.mem_cons_of_mem _ ha, h1, h2⟩
    · rintro (h1 | ⟨a, ha, h1, h2⟩)
      · refine .inl ?_
        split
        · rename_i e1
          subst e1
          exact List.mem_append_left _ h1
        · exact h1
      · rcases List.mem_cons.1 ha with rfl | ha
        · refine .inl ?_
          rw [if_pos h1]
          exact List.mem_append_right _ h2
        · exact .inr ⟨a, ha, h1, h2⟩
/-- a place's list grows by no more than all lists of row together -/
theorem ext_size (row : List (List HV)) (M : Nat) (hr : ∀ m : Nat, List.length row[m]! ≤ M) : ∀ (E : List NE) (next : List (List HV)), (∀ e ∈ E, e.dst < next.length) → ∀ m : Nat, List.length (ext row next E)[m]! ≤ List.length next[m]! + E.length * M
  | [], next, _, m => by simp [ext]
  | e :: E, next, h, m => by
    have hd := h e List.mem_cons_self
    have := ext_size row M hr E (next.set e.dst (next[e.dst]! ++ along e.s row[e.src]!)) (fun a ha => by rw [List.length_set]; exact h a (List.mem_cons_of_mem _ ha)) m
    rw [set_get _ _ _ _ hd] at this
    have e1 : (ext row next (e :: E))[m]! = (ext row (next.set e.dst (next[e.dst]! ++ along e.s row[e.src]!)) E)[m]! := rfl
    rw [e1, List.length_cons, Nat.add_mul, Nat.one_mul]
    split at this
    · rename_i e2
      subst e2
      rw [List.length_append] at this
      have a := along_len e.s row[e.src]!
      have b := hr e.src
      omega
    · omega
def stepRow (E : List NE) (row : List (List HV)) : List (List HV) := (ext row row E).map leastH
def sameRow (a b : List (List HV)) : Bool := (List.range a.length).all fun m => likeH a[m]! b[m]!

section
variable {E : List NE} {D : Nat → Int} {N : Nat} (F : Fine E D N) (n : Nat) (h0 : HV)
/-- a way of at most so many edges -/
def WayIn (E : List NE) (n : Nat) (h0 : HV) (r : Nat) (m : Nat) (h : HV) : Prop := ∃ es, (∀ e ∈ es, e ∈ E) ∧ es.length ≤ r ∧ run n h0 es = some (m, h)
/-- a way -/
def Way (E : List NE) (n : Nat) (h0 : HV) (m : Nat) (h : HV) : Prop := ∃ es, (∀ e ∈ es, e ∈ E) ∧ run n h0 es = some (m, h)
theorem Way.more {E : List NE} {n : Nat} {h0 : HV} {e : NE} {h : HV} (w : Way E n h0 e.src h) (he : e ∈ E) (o : thenOk h e.s = true) : Way E n h0 e.dst (thenV h e.s) := by
  obtain ⟨es, hE, q⟩ := w
  refine ⟨es ++ [e], fun a ha => ?_, ?_⟩
  · rcases List.mem_append.1 ha with ha | ha
    · exact hE a ha
    · rw [List.mem_singleton.1 ha]; exact he
  · rw [run_append, q]
    simp [run, o]
theorem WayIn.more {E : List NE} {n : Nat} {h0 : HV} {r : Nat} {e : NE} {h : HV} (w : WayIn E n h0 r e.src h) (he : e ∈ E) (o : thenOk h e.s = true) : WayIn E n h0 (r + 1) e.dst (thenV h e.s) := by
  obtain ⟨es, hE, hl, q⟩ := w
  refine ⟨es ++ [e], fun a ha => ?_, by simp; omega, ?_⟩
  · rcases List.mem_append.1 ha with ha | ha
    · exact hE a ha
    · rw [List.mem_singleton.1 ha]; exact he
  · rw [run_append, q]
    simp [run, o]
/-- a way's last edge -/
theorem way_last {E : List NE} {n : Nat} {h0 : HV} {es : List NE} {m : Nat} {h : HV} (hE : ∀ e ∈ es, e ∈ E) (q : run n h0 es = some (m, h)) : (es = [] ∧ m = n ∧ h = h0) ∨ ∃ P e y, es = P ++ [e] ∧ (∀ a ∈ P, a ∈ E) ∧ e ∈ E ∧ run n h0 P = some (e.src, y) ∧ thenOk y e.s = true ∧ m = e.dst ∧ h = thenV y e.s := by
  by_cases hne : es = []
  · subst hne
    simp only [run, Option.some.injEq, Prod.mk.injEq] at q
    exact .inl ⟨rfl, q.1.symm, q.2.symm⟩
  · obtain ⟨P, e, rfl⟩ : ∃ P e, es = P ++ [e] := ⟨es.dropLast, es.getLast hne, (List.dropLast_concat_getLast hne).symm⟩
    rw [run_append] at q
    cases hp : run n h0 P with
    | none => rw [hp] at q; cases q
    | some p =>
      obtain ⟨u, y⟩ := p
      rw [hp] at q
      simp only [Option.bind_some, run] at q
      split at q
      · rename_i hc
        simp only [Option.some.injEq, Prod.mk.injEq] at q
        refine .inr ⟨P, e, y, rfl, fun a ha => hE a (List.mem_append_left _ ha), hE e (List.mem_append_right _ List.mem_cons_self), ?_, hc.2, q.1.symm, q.2.symm⟩
        rw [hp, hc.1]
      · cases q
/-- the state behind r rounds -/
structure Rounds (E : List NE) (D : Nat → Int) (N n : Nat) (h0 : HV) (r : Nat) (row : List (List HV)) : Prop where
  len : row.length = N
  least : ∀ m, m < N → LeastOf (WayIn E n h0 r m) row[m]!
theorem Rounds.start (hn : n < N) (h0r : h0.rightB = true) : Rounds E D N n h0 0 ((List.replicate N []).set n [h0]) := by
  refine ⟨by rw [List.length_set, List.length_replicate], fun m hm => ?_⟩
  have way0 : ∀ m h, WayIn E n h0 0 m h ↔ m = n ∧ h = h0 := fun m h => by
    constructor
    · rintro ⟨es, _, hl, q⟩
      obtain rfl : es = [] := List.length_eq_zero_iff.1 (by omega)
      simp only [run, Option.some.injEq, Prod.mk.injEq] at q
      exact ⟨q.1.symm, q.2.symm⟩
    · rintro ⟨rfl, rfl⟩
      exact ⟨[], fun _ h => by simp at h, Nat.le_refl _, rfl⟩
  rw [set_get _ _ _ _ (by rw [List.length_replicate]; exact hn)]
  by_cases e : n = m
  · rw [if_pos e]
    refine ⟨by simp, fun h hh => ?_, fun h hh => ?_, fun h hh x hx _ => ?_, fun x hx => ?_⟩
    · exact (way0 m h).2 ⟨e.symm, by simpa using hh⟩
    · have : h = h0 := by simpa using hh
      rw [this]; exact h0r
    · have a : h = h0 := by simpa using hh
      have b : x = h0 := by simpa using hx
      rw [a, b]
    · exact ⟨h0, by simp, by rw [((way0 m x).1 hx).2]; exact leH_self h0r⟩
  · rw [if_neg e, getElem!_pos _ m (by rw [List.length_replicate]; exact hm), List.getElem_replicate]
    refine ⟨by simp, fun h hh => by simp at hh, fun h hh => by simp at hh, fun h hh => by simp at hh, fun x hx => ?_⟩
    exact absurd ((way0 m x).1 hx).1.symm e
include F
theorem Rounds.dst {r : Nat} {row : List (List HV)} (R : Rounds E D N n h0 r row) : ∀ e ∈ E, e.dst < row.length := fun e he => by rw [R.len]; exact (F.lt e he).2
theorem Rounds.next (hn : n < N) (h0r : h0.rightB = true) (h0d : h0.k + h0.t = D n) {r : Nat} {row : List (List HV)} (R : Rounds E D N n h0 r row) : Rounds E D N n h0 (r + 1) (stepRow E row) := by
  have hlen : (stepRow E row).length = N := by unfold stepRow; rw [List.length_map, ext_len, R.len]
  refine ⟨hlen, fun m hm => ?_⟩
  have e1 : (stepRow E row)[m]! = leastH (ext row row E)[m]! := by
    unfold stepRow
    rw [getElem!_pos _ m (by rw [List.length_map, ext_len, R.len]; exact hm), List.getElem_map, getElem!_pos (ext row row E) m (by rw [ext_len, R.len]; exact hm)]
  rw [e1]
  have L := leastH_of (ext row row E)[m]!
  have hm' := ext_mem row E row (R.dst F) m
  refine ⟨L.nodup, fun h hh => ?_, L.right, L.anti, fun x hx => ?_⟩
  · rcases (hm' h).1 (L.mem h hh).1 with q | ⟨e, he, rfl, q⟩
    · obtain ⟨es, a, b, c⟩ := (R.least m hm).mem h q
      exact ⟨es, a, by omega, c⟩
    · obtain ⟨y, hy, o, rfl⟩ := mem_along.1 q
      exact ((R.least e.src (F.lt e he).1).mem y hy).more he o
  · obtain ⟨es, hE, hl, q⟩ := hx
    have key : ∃ z, z ∈ (ext row row E)[m]! ∧ z.rightB = true ∧ leH z x = true := by
      by_cases hr : es.length ≤ r
      · obtain ⟨z, hz, hle⟩ := (R.least m hm).cover x ⟨es, hE, hr, q⟩
        exact ⟨z, (hm' z).2 (.inl hz), (R.least m hm).right z hz, hle⟩
      · rcases way_last hE q with ⟨rfl, _⟩ | ⟨P, e, y, rfl, hP, he, hp, o, rfl, rfl⟩
        · simp at hr
        · simp only [List.length_append, List.length_singleton] at hl
          obtain ⟨z, hz, hle⟩ := (R.least e.src (F.lt e he).1).cover y ⟨P, hP, by omega, hp⟩
          obtain ⟨o2, hle2⟩ := then_lower hle o
          exact ⟨thenV z e.s, (hm' _).2 (.inr ⟨e, he, rfl, mem_along.2 ⟨z, hz, o2, rfl⟩⟩), (thenV_facts o2).1, hle2⟩
    obtain ⟨z, hz, hzr, hle⟩ := key
    obtain ⟨u, hu, hle2⟩ := L.cover z ⟨hz, hzr⟩
    exact ⟨u, hu, leH_trans hle2 hle⟩
/-- once nothing changes all ways are covered -/
theorem Rounds.done (hn : n < N) (h0r : h0.rightB = true) (h0d : h0.k + h0.t = D n) {r : Nat} {row : List (List HV)} (R : Rounds E D N n h0 r row) (hs : sameRow (stepRow E row) row = true) : ∀ m, m < N → LeastOf (Way E n h0 m) (stepRow E row)[m]! := by
  have R2 := R.next F n h0 hn h0r h0d
  have hsub : ∀ m, m < N → ∀ x ∈ (stepRow E row)[m]!, x ∈ row[m]! := fun m hm => by
    unfold sameRow at hs
    have := List.all_eq_true.1 hs m (List.mem_range.2 (by rw [R2.len]; exact hm))
    exact (likeH_sub this).1
  have cov : ∀ (c : Nat) (es : List NE) (m : Nat) (x : HV), es.length ≤ c → (∀ e ∈ es, e ∈ E) → run n h0 es = some (m, x) → ∃ z ∈ (stepRow E row)[m]!, leH z x = true := by
    intro c
    induction c with
    | zero =>
      intro es m x hc hE q
      have hmN : m < N := by rw [run_end q]; exact endOf_lt F hE hn
      exact (R2.least m hmN).cover x ⟨es, hE, by omega, q⟩
    | succ c ih =>
      intro es m x hc hE q
      have hmN : m < N := by rw [run_end q]; exact endOf_lt F hE hn
      rcases way_last hE q with ⟨rfl, rfl, rfl⟩ | ⟨P, e, y, rfl, hP, he, hp, o, rfl, rfl⟩
      · exact (R2.least m hmN).cover x ⟨[], hE, Nat.zero_le _, q⟩
      · simp only [List.length_append, List.length_singleton] at hc
        obtain ⟨z, hz, hle⟩ := ih P e.src y (by omega) hP hp
        have hz2 := hsub e.src (F.lt e he).1 z hz
        obtain ⟨o2, hle2⟩ := then_lower hle o
        obtain ⟨u, hu, hle3⟩ := (R2.least e.dst hmN).cover (thenV z e.s) (((R.least e.src (F.lt e he).1).mem z hz2).more he o2)
        exact ⟨u, hu, leH_trans hle3 hle2⟩
  intro m hm
  have L := R2.least m hm
  refine ⟨L.nodup, fun h hh => ?_, L.right, L.anti, fun x hx => ?_⟩
  · obtain ⟨es, a, _, c⟩ := L.mem h hh
    exact ⟨es, a, c⟩
  · obtain ⟨es, hE, q⟩ := hx
    exact cov es.length es m x (Nat.le_refl _) hE q
/-- behind four times as many rounds as there are places nothing changes -/
theorem Rounds.late (hn : n < N) (h0r : h0.rightB = true) (h0d : h0.k + h0.t = D n) (h0z : ∀ j : Nat, (j : Int) < h0.k + h0.t → h0.at j ≤ 0) (hN : N ≤ 10000) {r : Nat} (hr : 4 * N ≤ r) {row : List (List HV)} (R : Rounds E D N n h0 r row) : sameRow (stepRow E row) row = true := by
  have R2 := R.next F n h0 hn h0r h0d
  unfold sameRow
  refine List.all_eq_true.2 fun m hm => ?_
  have hmN : m < N := by have := List.mem_range.1 hm; rw [R2.len] at this; exact this
  have up : ∀ q, 4 * N ≤ q → ∀ l, LeastOf (WayIn E n h0 q m) l → LeastOf (Way E n h0 m) l := fun q hq l L => by
    refine ⟨L.nodup, fun h hh => ?_, L.right, L.anti, fun x hx => ?_⟩
    · obtain ⟨es, a, _, c⟩ := L.mem h hh
      exact ⟨es, a, c⟩
    · obtain ⟨es, hE, hrun⟩ := hx
      obtain ⟨es2, h2, hE2, hl2, hr2, hle⟩ := short_way F hn h0r h0d h0z hN (Nat.le_refl _) hE hrun
      obtain ⟨z, hz, hle2⟩ := L.cover h2 ⟨es2, hE2, by omega, hr2⟩
      exact ⟨z, hz, leH_trans hle2 hle⟩
  exact (up (r + 1) (by omega) _ (R2.least m hmN)).like (up r hr _ (R.least m hmN))
end
end Go.Proofs.YtjaahmgokiobjaaGreat
/- the document's Chain of scopes -/
namespace Go.Proofs.YtjaahmgokiobjaaGreat
open Go.RowKit
set_option linter.unusedVariables false
set_option linter.unusedSimpArgs false

/-- a scope and its parents, the first one at the beginning, at most so many -/
def chainL (P : List Int) : Nat → Int → List Int
  | 0, _ => []
  | f + 1, s => if 0 ≤ s ∧ s < (P.length : Int) then chainL P f P[s.toNat]! ++ [s] else []
theorem chainL_len (P : List Int) : ∀ (f : Nat) (s : Int), (chainL P f s).length ≤ f
  | 0, _ => Nat.le_refl _
  | f + 1, s => by
    unfold chainL
    split
    · have := chainL_len P f P[s.toNat]!
      simp only [List.length_append, List.length_singleton]
      omega
    · simp
theorem RN_lit (w : World) (a : Int) : RN.Own w.heap.size (w.alloc (.cells #[.int .i64 a] 3)) (.slice (some ⟨w.heap.size, 0, none⟩) 1 1) [a] :=
  ⟨rfl, .inr ⟨w.heap.size, 1, #[.int .i64 a], rfl, Nat.le_refl _, heap_alloc_new w _, Nat.le_refl 1, by decide, rfl, rfl⟩⟩
set_option maxRecDepth 100000 in
set_option maxHeartbeats 8000000 in
theorem rchain_any (g : GV) (v : Value) (s : Int) (w : World) (h : IsG w v g) (hl : g.parent.length ≤ 900000) : Calls Tryz.prog 25 #[v, .int .i64 s] w (RN.Made (chainL g.parent 10 s) w) := by
  obtain ⟨pv, bv, nv, ev, rfl, h1, h2, ⟨xs, h3, h3n, h3a⟩, h4⟩ := h
  obtain ⟨p1, c1, rfl, hop⟩ := RowKind.Is.opened h1
  obtain ⟨p2, c2, rfl⟩ := h2.slice
  obtain ⟨p3, c3, rfl⟩ := h3.slice
  obtain ⟨p4, c4, rfl⟩ := h4.slice
  have hrow : Hid (∀ (W : World), Below w.heap.size w W → ∀ j, j < g.parent.length → ∃ b off, p1 = some ⟨b, off, none⟩ ∧ W.cell? ⟨b, off + j, none⟩ = some (.int .i64 g.parent[j]!)) := fun W hW j hj => by
    obtain ⟨b, off, e, hb, hr⟩ := hop j hj
    exact ⟨b, off, e, atN (hr.below hW hb) j hj⟩
  clear h1 h2 h3 h3n h3a h4 hop
  generalize g.bound.length = n2 at *
  generalize xs.length = n3 at *
  generalize g.edges.length = n4 at *
  generalize g.parent = P at *
  have HB0 := Lib.hid ((Below.refl w.heap.size w).alloc (Nat.le_refl _) (.cells #[.slice p1 P.length c1, .slice p2 n2 c2, .slice p3 n3 c3, .slice p4 n4 c4] 26))
  have HX : Hid (rowOf (w.alloc (.cells #[.slice p1 P.length c1, .slice p2 n2 c2, .slice p3 n3 c3, .slice p4 n4 c4] 26)) w.heap.size = some #[.slice p1 P.length c1, .slice p2 n2 c2, .slice p3 n3 c3, .slice p4 n4 c4]) := row_new rfl
  have HS : Hid (∀ (f : Nat) (t : Int), 0 ≤ t → t < (P.length : Int) → chainL P (f + 1) t = chainL P f P[t.toNat]! ++ [t]) := fun f t h1 h2 => by show (if _ then _ else _) = _; rw [if_pos ⟨h1, h2⟩]
  have HE : Hid (∀ (f : Nat) (t : Int), ¬ (0 ≤ t ∧ t < (P.length : Int)) → chainL P f t = []) := fun f t h => by cases f; rfl; exact if_neg h
  generalize hF : chainL P 10 s = F at *
  have HF := Lib.hid hF
  clear hF
  generalize hn : P.length = n at *
  have HN := Lib.hid hn
  clear hn
  go_enter Tryz.func25, Tryz.ntmps25
  go_wp2
  go_loopg [1, 5] 10 (fun gg sv ov wr => ∃ (t : Int) (out : List Int), sv = .int .i64 t ∧ out.length ≤ 10 ∧ 10 - out.length ≤ gg ∧ Hid (Below w.heap.size w wr) ∧ Hid (rowOf wr w.heap.size = some #[.slice p1 n c1, .slice p2 n2 c2, .slice p3 n3 c3, .slice p4 n4 c4]) ∧ Hid (RN.Own (w.heap.size + 1) wr ov out) ∧ Hid (chainL P (10 - out.length) t ++ out = F))
  case atStart => exact ⟨s, [], rfl, by simp, by simp, HB0.out, HX.out, RowKind.Own.nil _ _ _, by show chainL P 10 s ++ [] = F; rw [List.append_nil]; exact HF.out⟩
  case round =>
    clear HB0 HX HF
    obtain ⟨t, out, rfl, hol, hg, HB, HX, HO, HQ⟩ := hrel
    have d0 : wr.cell? ⟨w.heap.size, 0, none⟩ = some (.slice p1 n c1) := rowOf_cell HX.out 0
    obtain ⟨po, co, ho⟩ := HO.out.is.slice
    subst ho
    generalize hlo : out.length = lo at *
    have HLO := Lib.hid hlo
    clear hlo
    by_cases ht : 0 ≤ t ∧ t < (n : Int)
    · obtain ⟨t0, t1⟩ := ht
      by_cases hlt : lo < 10
      · have hltz : (lo : Int) < 10 := by omega
        obtain ⟨j, rfl⟩ : ∃ j : Nat, t = (j : Int) := ⟨t.toNat, by omega⟩
        obtain ⟨b, off, rfl, hc⟩ := hrow.out wr HB.out j (by omega)
        have HC : Hid (∀ W, Below w.heap.size w W → W.cell? ⟨b, off + j, none⟩ = some (.int .i64 P[j]!)) := fun W hW => by
          obtain ⟨b', off', e, hc'⟩ := hrow.out W hW j (by omega)
          simp only [Option.some.injEq, Addr.mk.injEq] at e
          obtain ⟨rfl, rfl, _⟩ := e
          exact hc'
        have hq := HQ.out
        rw [show 10 - lo = (10 - (lo + 1)) + 1 by omega, HS.out _ _ t0 t1, List.append_assoc] at hq
        have HQ2 := Lib.hid hq
        have HZ : Hid (w.heap.size + 1 ≤ wr.heap.size) := rowOf_lt HX.out
        have HLT := Lib.hid (RN_lit wr (j : Int))
        have HBW := Lib.hid ((Below.refl wr.heap.size wr).alloc (Nat.le_refl _) (.cells #[.int .i64 (j : Int)] 3))
        have HOI := Lib.hid ((HO.out.alloc (.cells #[.int .i64 (j : Int)] 3)).is)
        have HLen : Hid (([(j : Int)] : List Int).length + out.length ≤ 1000000) := by show _ ≤ _; rw [HLO.out, List.length_singleton]; omega
        clear hc hrow hq HQ HS HE HO
        rw [show ((j : Int)).toNat = j from rfl] at HQ2
        generalize P[j]! = t2 at *
        have HSz : Hid (wr.heap.size ≤ (wr.alloc (.cells #[.int .i64 (j : Int)] 3)).heap.size) := by show _ ≤ _; simp
        go_wp2_with (at_builtin; refine RowKind.Own.appendAny (R := RN) (ys := out) HLT.out HBW.out HSz.out rfl _ _ rfl rfl rfl HOI.out HLen.out ?_; intro v2 w2 hO2 hB2 hz2; have HO2 := Lib.hid hO2; have HB2 := Lib.hid hB2; clear hO2 hB2 hz2; have HB3 := Lib.hid (bstep HB.out HB2.out HB.out.size); have HX3 := Lib.hid (rowOf_below HX.out HB2.out (rowOf_lt HX.out)); have e0 : w2.cell? ⟨w.heap.size, 0, none⟩ = some (.slice (some ⟨b, off, none⟩) n c1) := rowOf_cell HX3.out 0; have e1 := HC.out w2 HB3.out)
        go_roundg (10 - (lo + 1))
        case measure => omega
        case rel => exact ⟨t2, [(j : Int)] ++ out, rfl, by rw [List.length_append, HLO.out, List.length_singleton]; omega, by rw [List.length_append, HLO.out, List.length_singleton]; omega, HB3.out, HX3.out, HO2.out.mono HZ.out, by have e := HLO.out; simp only [List.singleton_append, List.length_cons, e]; exact HQ2.out⟩
      · have hltz : ¬ (lo : Int) < 10 := by omega
        have hq := HQ.out
        rw [show 10 - lo = 0 by omega] at hq
        have HQ2 : Hid (out = F) := hq
        clear hrow hq HQ HS HE
        go_wp2
        go_returns
        rw [← HQ2.out]
        exact ⟨_, rfl, HO.out.mono (Nat.le_succ _), HB.out⟩
    · have hq := HQ.out
      rw [HE.out _ _ ht] at hq
      have HQ2 : Hid (out = F) := hq
      clear hrow hq HQ HS HE
      have hcase : ¬ 0 ≤ t ∨ (0 ≤ t ∧ ¬ t < (n : Int)) := by omega
      rcases hcase with ht1 | ⟨ht1, ht2⟩
      · clear ht
        go_wp2
        go_returns
        rw [← HQ2.out]
        exact ⟨_, rfl, HO.out.mono (Nat.le_succ _), HB.out⟩
      · clear ht
        go_wp2
        go_returns
        rw [← HQ2.out]
        exact ⟨_, rfl, HO.out.mono (Nat.le_succ _), HB.out⟩
end Go.Proofs.YtjaahmgokiobjaaGreat
