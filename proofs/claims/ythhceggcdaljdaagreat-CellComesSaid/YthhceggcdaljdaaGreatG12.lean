/- the program's: a cell without its slot i, if that is empty -/
import Derived.Test.YthhceggcdaljdaaGreatG09
import Derived.Test.YthhceggcdaljdaaGreatG11
import Derived.Test.YthhceggcdaljdaaGreatG07
import Derived.Test.YthhceggcdaljdaaGreatG08
namespace Go.Proofs.YthhceggcdaljdaaGreat
open Go.RowKit
set_option linter.unusedVariables false
set_option linter.unusedSimpArgs false

theorem below_grownC {B : Nat} {a W W' : World} {r : Option Nat} (h : Below B a W) (hB : B ≤ W.heap.size) (hg : W.grownBy W' r) (hr : ∀ k, r = some k → B ≤ k) : Below B a W' :=
  ⟨hg.os.trans h.os, hg.tape.trans h.tape, hg.output.trans h.output, Nat.le_trans h.size hg.size, fun i hi => (hg.block i (by omega) (fun e => by have := hr i e.symm; omega)).trans (h.block i hi)⟩
/-- where the row of a cell that is not empty lies -/
theorem OwnC.row {B : Nat} {w : World} {v : Value} {xs : List SW} {c : List SV} (h : OwnC B w v xs c) (h0 : 0 < c.length) : ∃ g cap, v = .slice (some ⟨g, 0, none⟩) xs.length cap ∧ B ≤ g ∧ g < w.heap.size ∧ (∀ o, w.frozen? ⟨g, o, none⟩ = false) ∧ ∀ j, j < xs.length →
    w.cell? ⟨g, j * 10, none⟩ = some (.int .i64 xs[j]!.t.d) ∧ w.cell? ⟨g, j * 10 + 1, none⟩ = some (.int .i64 xs[j]!.t.c0) ∧ w.cell? ⟨g, j * 10 + 2, none⟩ = some (.int .i64 xs[j]!.t.c1) ∧ w.cell? ⟨g, j * 10 + 3, none⟩ = some (.int .i64 xs[j]!.t.c2) ∧ w.cell? ⟨g, j * 10 + 4, none⟩ = some (.int .i64 xs[j]!.t.c3) ∧ w.cell? ⟨g, j * 10 + 5, none⟩ = some (.slice xs[j]!.p0 xs[j]!.n0 xs[j]!.c0) ∧ w.cell? ⟨g, j * 10 + 6, none⟩ = some (.slice xs[j]!.p1 xs[j]!.n1 xs[j]!.c1) ∧ w.cell? ⟨g, j * 10 + 7, none⟩ = some (.slice xs[j]!.p2 xs[j]!.n2 xs[j]!.c2) ∧ w.cell? ⟨g, j * 10 + 8, none⟩ = some (.bool xs[j]!.d) ∧ w.cell? ⟨g, j * 10 + 9, none⟩ = some (.bool xs[j]!.f) := by
  have hlen := h.len
  have hI := h.own.is
  obtain ⟨_, ⟨e, h2⟩ | ⟨g, cap, cur, e, hBg, hg, hc, hm, hs, ht⟩⟩ := h.own
  · omega
  · subst e
    refine ⟨g, cap, rfl, hBg, (Array.getElem?_eq_some_iff.1 hg).1, fun o => by unfold World.frozen?; simp [hg], fun j hj => ?_⟩
    rcases hI with ⟨h3, _⟩ | ⟨_, b, off, cap2, e2, hb, hr⟩
    · rw [h3] at hlen; simp at hlen; omega
    · simp only [Value.slice.injEq, Option.some.injEq, Addr.mk.injEq] at e2
      obtain ⟨⟨rfl, rfl, _⟩, _⟩ := e2
      have q := atSl hr j hj
      simp only [Nat.zero_add] at q
      exact q
/-- a cell in a row of the call's own, made out of the row r -/
def MadeC (B : Nat) (w : World) (r : Option Nat) (d : List SV) (e : Ending) (w' : World) : Prop := ∃ v' xs', e = .returned v' ∧ OwnC B w' v' xs' d ∧ w.grownBy w' r
set_option maxRecDepth 100000 in
set_option maxHeartbeats 16000000 in
theorem pwithout_any (xs : List SW) (c : List SV) (v : Value) (i B : Nat) (w : World) (h : OwnC B w v xs c) (hi : i < c.length) (hl : c.length ≤ 900000) (hB : B ≤ w.heap.size) : Calls Tryz.prog 51 #[v, .int .i64 (i : Int)] w (MadeC B w v.ownBlock (if (c[i]!).empty = true then c.eraseIdx i else c)) := by
  obtain ⟨g, cap, rfl, hBg, hgl, hfr, hcells⟩ := h.row (by omega)
  have hlen := h.len
  obtain ⟨e0, e1, e2, e3, e4, e5, e6, e7, e8, e9⟩ := hcells i (by omega)
  have HE := Lib.hid (fun W => pempty_any xs[i]! W)
  have hEe := (h.are.2 i hi).emptyB
  rw [hEe] at HE
  have HO := Lib.hid h
  have HDel := Lib.hid (fun W (hW : Below w.heap.size w W) => pdelS_any xs g cap i B W (h.below hW).own (by omega) (by omega) (Nat.le_trans hB hW.size))
  have HErase : Hid (∀ (W W' : World) v', Below w.heap.size w W → RSl.Own B W' v' (xs.eraseIdx i) → W.grownBy W' (some g) → OwnC B W' v' (xs.eraseIdx i) (c.eraseIdx i) ∧ w.grownBy W' (some g)) := fun W W' v' hW hO hG => by
    have hq := areSl.off (h.below hW) hG
    exact ⟨⟨hO, areSl_erase hq.1 i, fun x hx => hq.2 x (List.mem_of_mem_eraseIdx hx)⟩, grown_tr (grown_of hW _) hG⟩
  generalize (c[i]!).empty = em at *
  generalize xs[i]! = x at *
  obtain ⟨⟨td, t0, t1, t2, t3⟩, p0, n0, c0, p1, n1, c1, p2, n2, c2, xd, xf⟩ := x
  dsimp only at e0 e1 e2 e3 e4 e5 e6 e7 e8 e9 HE
  rw [hlen] at HDel HO ⊢
  have HN : Hid (em = false → ∀ W' v' xs', OwnC B W' v' xs' c → w.grownBy W' (some g) → MadeC B w (some g) (if em = true then c.eraseIdx i else c) (.returned v') W') := fun q W' v' xs' h1 h2 => ⟨v', xs', rfl, by subst q; exact h1, h2⟩
  have HY : Hid (em = true → ∀ W' v' xs', OwnC B W' v' xs' (c.eraseIdx i) → w.grownBy W' (some g) → MadeC B w (some g) (if em = true then c.eraseIdx i else c) (.returned v') W') := fun q W' v' xs' h1 h2 => ⟨v', xs', rfl, by subst q; exact h1, h2⟩
  show Calls _ _ _ w (MadeC B w (some g) _)
  generalize (if em = true then c.eraseIdx i else c) = d at *
  have hic : (i : Int) < (c.length : Int) := by omega
  have hi1 : IntKind.i64.wrap ((i : Int) + 1) = ((i + 1 : Nat) : Int) := by rw [IntKind.wrap_i64]; omega
  clear h hEe hlen hcells hfr hB
  go_enter Tryz.func51, Tryz.ntmps51
  go_wp2_with fail
  refine (HE.out _).mono ?_
  rintro e w1 ⟨rfl, hb1⟩
  have HB1 := Lib.hid hb1
  clear hb1 HE e0 e1 e2 e3 e4 e5 e6 e7 e8 e9
  cases em
  · have HF := Lib.hid (HO.out.below HB1.out)
    go_wp2
    go_returns
    exact HN.out (by trivial) _ _ _ HF.out (grown_of HB1.out _)
  · have HD1 := Lib.hid (HDel.out w1 HB1.out)
    clear HDel
    go_wp2_with fail
    refine (HD1.out).mono ?_
    rintro e w2 ⟨rfl, hO2, hG2⟩
    have HF := Lib.hid (HErase.out w1 w2 _ HB1.out hO2 hG2)
    clear hO2 hG2 HErase HD1 HO
    go_wp2
    go_returns
    exact HY.out (by trivial) _ _ _ HF.out.1 HF.out.2
end Go.Proofs.YthhceggcdaljdaaGreat
/- the program's cell, as contracts; what comes of short cells is short -/
namespace Go.Proofs.YthhceggcdaljdaaGreat
open Go.RowKit
set_option linter.unusedVariables false
set_option linter.unusedSimpArgs false

/-- no more than K slots of no more than K records each -/
def SmallC (K : Nat) (c : List SV) : Prop := c.length ≤ K ∧ ∀ x ∈ c, x.a.length ≤ K ∧ x.b.length ≤ K ∧ x.s.length ≤ K
theorem SmallC.mono {K L : Nat} {c : List SV} (h : SmallC K c) (hL : K ≤ L) : SmallC L c := ⟨by have := h.1; omega, fun x hx => by have := h.2 x hx; omega⟩
theorem shortC_small {c : List SV} (h : shortC c = true) : SmallC 40 c := by
  have q := of_decide_eq_true h
  refine ⟨q.1, fun x hx => ?_⟩
  obtain ⟨j, hj, rfl⟩ := List.mem_iff_getElem.1 hx
  have := q.2 j hj
  rwa [getElem!_pos c j hj] at this
theorem outS_len {kind : Int} {own : SV} : ∀ {c : List SV} {done : Bool}, (outS kind own c done).length ≤ c.length + if done = true then 0 else 1
  | [], done => by
    unfold outS
    split <;> simp
  | x :: c, done => by
    unfold outS
    have h0 := @outS_len kind own c done
    have h1 := @outS_len kind own c true
    split
    · simp only [List.length_cons]; split at h0 <;> simp_all <;> omega
    · split
      · rename_i h; simp only [List.length_cons]; simp [h.1] at h1 ⊢; omega
      · simp only [List.length_cons]; omega
theorem small_come {K : Nat} {c : List SV} (h : SmallC K c) (kind port : Int) (t : TV) (r : RV) (n : Int) : SmallC (K + 1) (comeF c kind port t r n) := by
  unfold comeF
  split
  · unfold comeS
    have hx : (xS c t).a.length ≤ K ∧ (xS c t).b.length ≤ K ∧ (xS c t).s.length ≤ K := by
      unfold xS
      cases e : lookS c t with
      | none => exact ⟨Nat.zero_le _, Nat.zero_le _, Nat.zero_le _⟩
      | some x => exact h.2 x (lookS_mem e).1
    have ho : (ownS c port t r n).a.length ≤ K + 1 ∧ (ownS c port t r n).b.length ≤ K + 1 ∧ (ownS c port t r n).s.length ≤ K + 1 := by
      show (putS (xS c t) port r n).a.length ≤ K + 1 ∧ (putS (xS c t) port r n).b.length ≤ K + 1 ∧ (putS (xS c t) port r n).s.length ≤ K + 1
      unfold putS
      have l1 : (addI (xS c t).a r n).length ≤ (xS c t).a.length + 1 := plusI_len _ [⟨r, n⟩]
      have l2 : (addI (xS c t).b r n).length ≤ (xS c t).b.length + 1 := plusI_len _ [⟨r, n⟩]
      split <;> exact ⟨by dsimp only; omega, by dsimp only; omega, by dsimp only; omega⟩
    refine ⟨?_, fun y hy => ?_⟩
    · have := @outS_len kind (ownS c port t r n) c (ownS c port t r n).empty
      have := h.1
      split at * <;> omega
    · rcases outS_mem hy with ⟨_, rfl⟩ | ⟨x, hx2, _, rfl⟩
      · exact ho
      · have := h.2 x hx2
        exact ⟨by show x.a.length ≤ _; omega, by show x.b.length ≤ _; omega, by show x.s.length ≤ _; omega⟩
  · exact h.mono (Nat.le_succ K)
def lateS (c : List SV) (kind port : Int) (t : TV) (n : Int) : Bool := comeOk c port t n && c.any fun x => (x.fired && !x.dirty) && (decide (x.t = t) || (decide (kind = 14) && t.le x.t))
structure CellC : Prop where
  come : ∀ c v kind port t r n W, SmallC 200 c → IsCl W v c → capOk v → Calls Tryz.prog 10 #[v, .int .i64 kind, .int .i64 port, TV.val t, RV.val r, .int .i64 n] W (fun e W' => ∃ u, e = .returned (.tuple #[u, .bool (lateS c kind port t n), .bool (comeOk c port t n)]) ∧ IsCl W' u (comeF c kind port t r n) ∧ capOk u ∧ Below W.heap.size W W')
  stale : ∀ c v W, SmallC 200 c → IsCl W v c → capOk v → Calls Tryz.prog 20 #[v] W (fun e W' => ∃ u, e = .returned u ∧ IsT W' u (staleL c) ∧ Below W.heap.size W W')
theorem staleL_len (c : List SV) : (staleL c).length ≤ c.length := by
  unfold staleL
  split
  · rw [List.length_map]; exact List.length_filter_le _ _
  · exact Nat.zero_le _
end Go.Proofs.YthhceggcdaljdaaGreat
/- the program's way of letting a record come, as plain facts -/
namespace Go.Proofs.YthhceggcdaljdaaGreat
open Go.RowKit
set_option linter.unusedVariables false
set_option linter.unusedSimpArgs false

/-- the place at which a timestamp's slot stands, or would stand -/
structure AtK (c : List SV) (t : TV) (k : Nat) : Prop where
  le : k ≤ c.length
  lo : ∀ j, j < k → (c[j]!).t.lt t = true
  hi : k < c.length → (c[k]!).t.lt t = false
/-- a slot with a record more, whether it is dirty or not left as it was -/
def addS (x : SV) (port : Int) (r : RV) (n : Int) : SV := if port = 0 then ⟨x.t, addI x.a r n, x.b, x.s, x.dirty, x.fired⟩ else ⟨x.t, x.a, addI x.b r n, x.s, x.dirty, x.fired⟩
theorem addS_t (x : SV) (port : Int) (r : RV) (n : Int) : (addS x port r n).t = x.t := by unfold addS; split <;> rfl
/-- does a slot hang on what comes at a timestamp? -/
def hangs (kind : Int) (t : TV) (x : SV) : Bool := decide (x.t = t) || (decide (kind = 14) && t.le x.t)
def soilS (kind : Int) (t : TV) (x : SV) : SV := ⟨x.t, x.a, x.b, x.s, x.dirty || hangs kind t x, x.fired⟩
def lateL (kind : Int) (t : TV) (c : List SV) : Bool := c.any fun x => (x.fired && !x.dirty) && hangs kind t x
theorem soil_mark {kind : Int} {t : TV} {x : SV} (h : x.t ≠ t) : soilS kind t x = markS kind t x := by
  unfold soilS markS hangs
  rw [decide_eq_false h, Bool.false_or]
theorem soil_put {kind : Int} {t : TV} {x : SV} (h : x.t = t) (port : Int) (r : RV) (n : Int) : soilS kind t (addS x port r n) = putS x port r n := by
  unfold soilS addS putS hangs
  split <;> simp [h]
theorem lt_ne {t u : TV} (h : t.lt u = true) : t ≠ u := fun e => by subst e; exact lt_irreflT _ h
theorem lt_asym {t u : TV} (h : t.lt u = true) : ¬ u.lt t = true := fun k => lt_irreflT _ (lt_transT h k)
theorem outS_cons (kind : Int) (own x : SV) (c : List SV) (d : Bool) : outS kind own (x :: c) d = if x.t = own.t then outS kind own c d else if d = false ∧ own.t.lt x.t = true then own :: markS kind own.t x :: outS kind own c true else markS kind own.t x :: outS kind own c d := by
  conv => lhs; unfold outS
theorem out_lo {kind : Int} {own : SV} : ∀ {A B : List SV} {d : Bool}, (∀ x ∈ A, x.t.lt own.t = true) → outS kind own (A ++ B) d = A.map (markS kind own.t) ++ outS kind own B d
  | [], B, d, _ => rfl
  | x :: A, B, d, h => by
    have hx := h x List.mem_cons_self
    show outS kind own (x :: (A ++ B)) d = _
    rw [outS_cons, if_neg (lt_ne hx), if_neg (fun q => lt_asym hx q.2), out_lo fun y hy => h y (List.mem_cons_of_mem _ hy)]
    rfl
theorem out_done {kind : Int} {own : SV} : ∀ {B : List SV}, (∀ x ∈ B, own.t.lt x.t = true) → outS kind own B true = B.map (markS kind own.t)
  | [], _ => rfl
  | x :: B, h => by
    have hx := h x List.mem_cons_self
    rw [outS_cons, if_neg (fun e => lt_ne hx e.symm), if_neg (fun q => by cases q.1), out_done fun y hy => h y (List.mem_cons_of_mem _ hy)]
    rfl
theorem out_hi {kind : Int} {own : SV} : ∀ {B : List SV}, (∀ x ∈ B, own.t.lt x.t = true) → outS kind own B false = own :: B.map (markS kind own.t)
  | [], _ => rfl
  | x :: B, h => by
    have hx := h x List.mem_cons_self
    rw [outS_cons, if_neg (fun e => lt_ne hx e.symm), if_pos ⟨rfl, hx⟩, out_done fun y hy => h y (List.mem_cons_of_mem _ hy)]
    rfl
theorem out_own {kind : Int} {own x : SV} {B : List SV} {d : Bool} (h : x.t = own.t) : outS kind own (x :: B) d = outS kind own B d := by
  rw [outS_cons, if_pos h]
/-- the slots of a cell about a place: those ahead of it, its own, and those behind it -/
structure Around (c : List SV) (t : TV) (k : Nat) (A : List SV) (o : SV) (B : List SV) (hit : Bool) : Prop where
  len : A.length = k
  lo : ∀ x ∈ A, x.t.lt t = true
  hi : ∀ x ∈ B, t.lt x.t = true
  own : o.t = t
  yes : hit = true → c = A ++ o :: B
  no : hit = false → c = A ++ B ∧ o = freshS t
  look : xS c t = o
theorem getElem!_memS {c : List SV} {j : Nat} (h : j < c.length) : c[j]! ∈ c := by rw [getElem!_pos c j h]; exact List.getElem_mem h
theorem look_lo {A B : List SV} {t : TV} (h : ∀ x ∈ A, x.t.lt t = true) : lookS (A ++ B) t = lookS B t := by
  induction A with
  | nil => rfl
  | cons x A ih =>
    show lookS (x :: (A ++ B)) t = _
    rw [lookS_cons, if_neg (lt_ne (h x List.mem_cons_self)), ih fun y hy => h y (List.mem_cons_of_mem _ hy)]
theorem look_hi {B : List SV} {t : TV} (h : ∀ x ∈ B, t.lt x.t = true) : lookS B t = none := lookS_none fun x hx e => lt_ne (h x hx) e.symm
theorem around_of {c : List SV} (hc : GoodSl c) {t : TV} (ht : t.ok = true) {k : Nat} (h : AtK c t k) : (k < c.length ∧ (c[k]!).t = t → Around c t k (c.take k) c[k]! (c.drop (k + 1)) true) ∧ (¬ (k < c.length ∧ (c[k]!).t = t) → Around c t k (c.take k) (freshS t) (c.drop k) false) := by
  have hl : (c.take k).length = k := by rw [List.length_take]; have := h.le; omega
  have hlo : ∀ x ∈ c.take k, x.t.lt t = true := fun x hx => by
    obtain ⟨j, hj, rfl⟩ := List.mem_iff_getElem.1 hx
    rw [hl] at hj
    have := h.lo j hj
    rw [getElem!_pos c j (by have := h.le; omega)] at this
    rw [List.getElem_take]
    exact this
  refine ⟨fun ⟨h1, h2⟩ => ?_, fun hn => ?_⟩
  · have e : c = c.take k ++ c[k]! :: c.drop (k + 1) := by
      rw [getElem!_pos c k h1, ← List.drop_eq_getElem_cons h1, List.take_append_drop]
    have hp := hc.2
    rw [e, List.pairwise_append] at hp
    have hhi : ∀ x ∈ c.drop (k + 1), t.lt x.t = true := fun x hx => by
      have := (List.pairwise_cons.1 hp.2.1).1 x hx
      rwa [h2] at this
    refine ⟨hl, hlo, hhi, h2, fun _ => e, fun q => by (cases q), ?_⟩
    have q : lookS c t = some c[k]! := (congrArg (fun z => lookS z t) e).trans ((look_lo hlo).trans (by rw [lookS_cons, if_pos h2]))
    unfold xS
    rw [q]
    rfl
  · have e : c = c.take k ++ c.drop k := (List.take_append_drop k c).symm
    have hhi : ∀ x ∈ c.drop k, t.lt x.t = true := fun x hx => by
      obtain ⟨j, hj, rfl⟩ := List.mem_iff_getElem.1 hx
      rw [List.length_drop] at hj
      rw [List.getElem_drop]
      have hk : k < c.length := by omega
      have h0 : t.lt (c[k]).t = true := by
        have h1 := h.hi hk
        have h2 : ¬ (c[k]!).t = t := fun q => hn ⟨hk, q⟩
        rw [getElem!_pos c k hk] at h1 h2
        exact lt_or ((okS_iff _).1 (hc.1 _ (List.getElem_mem hk))).1 ht h2 (by rw [h1]; decide)
      by_cases q : j = 0
      · subst q; exact h0
      · have := List.pairwise_iff_getElem.1 hc.2 k (k + j) hk (by omega) (by omega)
        exact lt_transT h0 this
    refine ⟨hl, hlo, hhi, rfl, fun q => by (cases q), fun _ => ⟨e, rfl⟩, ?_⟩
    have q : lookS c t = none := (congrArg (fun z => lookS z t) e).trans ((look_lo hlo).trans (look_hi hhi))
    unfold xS
    rw [q]
    rfl
/-- what the program makes of it -/
def comeA (kind port : Int) (t : TV) (r : RV) (n : Int) (A : List SV) (o : SV) (B : List SV) : List SV :=
  if (putS o port r n).empty = true then A.map (soilS kind t) ++ B.map (soilS kind t) else A.map (soilS kind t) ++ putS o port r n :: B.map (soilS kind t)
theorem comeA_is {c : List SV} {t : TV} {k : Nat} {A B : List SV} {o : SV} {hit : Bool} (h : Around c t k A o B hit) (kind port : Int) (r : RV) (n : Int) : comeS c kind port t r n = comeA kind port t r n A o B := by
  have he : ownS c port t r n = putS o port r n := by show putS (xS c t) port r n = _; rw [h.look]
  have ht : (putS o port r n).t = t := by rw [putS_t, h.own]
  have hA : A.map (soilS kind t) = A.map (markS kind t) := List.map_congr_left fun x hx => soil_mark (lt_ne (h.lo x hx))
  have hB : B.map (soilS kind t) = B.map (markS kind t) := List.map_congr_left fun x hx => soil_mark fun e => lt_ne (h.hi x hx) e.symm
  have key : ∀ d : Bool, outS kind (putS o port r n) c d = A.map (markS kind t) ++ outS kind (putS o port r n) B d := fun d => by
    cases hit with
    | true =>
      rw [h.yes rfl, out_lo (by rw [ht]; exact h.lo), out_own (by rw [ht, h.own]), ht]
    | false =>
      rw [(h.no rfl).1, out_lo (by rw [ht]; exact h.lo), ht]
  unfold comeS comeA
  rw [he, key, hA, hB]
  cases q : (putS o port r n).empty with
  | true => rw [if_pos rfl, out_done (by rw [ht]; exact h.hi), ht]
  | false => rw [if_neg (by decide), out_hi (by rw [ht]; exact h.hi), ht]
theorem late_is {c : List SV} {t : TV} {k : Nat} {A B : List SV} {o : SV} {hit : Bool} (h : Around c t k A o B hit) (kind port : Int) (r : RV) (n : Int) : lateL kind t (A ++ addS o port r n :: B) = lateL kind t c := by
  have e : ∀ x : SV, ((addS o port r n).fired && !(addS o port r n).dirty && hangs kind t (addS o port r n)) = (o.fired && !o.dirty && hangs kind t o) := fun _ => by
    unfold hangs
    rw [addS_t]
    unfold addS
    split <;> rfl
  cases hit with
  | true =>
    rw [h.yes rfl]
    unfold lateL
    rw [List.any_append, List.any_append, List.any_cons, List.any_cons, e o]
  | false =>
    rw [(h.no rfl).1]
    unfold lateL
    rw [List.any_append, List.any_append, List.any_cons, e o, (h.no rfl).2]
    rfl
theorem soiled {kind : Int} {t : TV} {A B : List SV} {o : SV} (ho : o.t = t) (port : Int) (r : RV) (n : Int) : (A ++ addS o port r n :: B).map (soilS kind t) = A.map (soilS kind t) ++ putS o port r n :: B.map (soilS kind t) := by
  rw [List.map_append, List.map_cons, soil_put ho]
theorem comeA_gone {kind port : Int} {t : TV} {r : RV} {n : Int} {A B : List SV} {o : SV} : comeA kind port t r n A o B = if (putS o port r n).empty = true then (A.map (soilS kind t) ++ putS o port r n :: B.map (soilS kind t)).eraseIdx A.length else A.map (soilS kind t) ++ putS o port r n :: B.map (soilS kind t) := by
  unfold comeA
  split
  · rw [List.eraseIdx_append_of_length_le (by rw [List.length_map]; exact Nat.le_refl _), List.length_map, Nat.sub_self]
    rfl
  · rfl

end Go.Proofs.YthhceggcdaljdaaGreat
/- the program's: whether a cell is right -/
namespace Go.Proofs.YthhceggcdaljdaaGreat
open Go.RowKit
set_option linter.unusedVariables false
set_option linter.unusedSimpArgs false

theorem less_anyC (t u : TV) (w : World) : Calls Tryz.prog 58 #[t.val, u.val] w (Ret (.bool (t.lt u)) w) := (less_drawn _ _ _ _ _ _ _ _ _ _ w).mono fun e w' h => h.ret
theorem goodSl_nil : GoodSl [] := ⟨fun _ h => (by cases h), List.Pairwise.nil⟩
theorem goodSl_succ {c : List SV} {k : Nat} (hk : k < c.length) (h : GoodSl (c.take k)) (h1 : okS c[k]! = true) (h2 : ∀ k', k = k' + 1 → (c[k']!).t.lt (c[k]!).t = true) : GoodSl (c.take (k + 1)) := by
  rw [take_getA c k hk]
  refine ⟨fun x hx => ?_, ?_⟩
  · rcases List.mem_append.1 hx with hx | hx
    · exact h.1 x hx
    · rw [List.mem_singleton.1 hx]; exact h1
  · refine List.pairwise_append.2 ⟨h.2, List.pairwise_singleton _ _, fun x hx y hy => ?_⟩
    rw [List.mem_singleton.1 hy]
    obtain ⟨j, hj, rfl⟩ := List.mem_iff_getElem.1 hx
    have hj2 := hj
    rw [List.length_take] at hj2
    obtain ⟨k', rfl⟩ : ∃ k', k = k' + 1 := ⟨k - 1, by omega⟩
    have q := h2 k' rfl
    by_cases e : j = k'
    · subst e
      rw [List.getElem_take, ← getElem!_pos c j (by omega)]
      exact q
    · have := List.pairwise_iff_getElem.1 h.2 j k' hj (by rw [List.length_take]; omega) (by omega)
      rw [List.getElem_take (i := k'), ← getElem!_pos c k' (by omega)] at this
      exact lt_transT this q
theorem rightSl_no_ok {c : List SV} {k : Nat} (hk : k < c.length) (h : okS c[k]! = false) : rightSl c = false := decide_eq_false fun q => by
  have := q.1 _ (getElem!_memS hk)
  rw [h] at this
  cases this
theorem rightSl_no_lt {c : List SV} {k : Nat} (hk : k + 1 < c.length) (h : (c[k]!).t.lt (c[k + 1]!).t = false) : rightSl c = false := decide_eq_false fun q => by
  have := List.pairwise_iff_getElem.1 q.2 k (k + 1) (by omega) hk (by omega)
  rw [← getElem!_pos c k (by omega), ← getElem!_pos c (k + 1) hk, h] at this
  cases this
set_option maxRecDepth 100000 in
set_option maxHeartbeats 16000000 in
theorem prightC_any (c : List SV) (v : Value) (w : World) (hs : SmallC 900000 c) (h : IsCl w v c) : Calls Tryz.prog 12 #[v] w (Ret (.bool (rightSl c)) w) := by
  obtain ⟨xs, hx0, hx1⟩ := h
  have HAr := Lib.hid hx1
  obtain ⟨p, k0, rfl, ho⟩ := isOpenedD hx0
  have HO := Lib.hid ho
  have hxn : xs.length = c.length := hx1.1
  have HSm := Lib.hid hs
  have hsz : c.length ≤ 900000 := hs.1
  rw [hxn] at HO ⊢
  clear hx0 hx1 ho hxn hs
  go_enter Tryz.func12, Tryz.ntmps12
  go_wp2
  go_loopg [7] c.length (fun gg i wr => ∃ k : Nat, k ≤ c.length ∧ c.length - k ≤ gg ∧ i = .int .i64 (k : Int) ∧ Hid (Below w.heap.size w wr) ∧ Hid (GoodSl (c.take k)))
  case atStart => exact ⟨0, Nat.zero_le _, by omega, rfl, Below.refl _ _, goodSl_nil⟩
  case round =>
    obtain ⟨k, hkn, hg, rfl, HB, HU⟩ := hrel
    by_cases hlt : k < c.length
    · have hlz : (k : Int) < (c.length : Int) := by omega
      obtain ⟨b, off, rfl, hb, hrow⟩ := HO.out k hlt
      have hxl : xs.length = c.length := HAr.out.1
      obtain ⟨e0, e1, e2, e3, e4, e5, e6, e7, e8, e9⟩ := atSl (hrow.below HB.out hb) k (by omega)
      have hxk := HAr.out.2 k hlt
      have hq := HSm.out.2 _ (getElem!_memS hlt)
      have HK := Lib.hid (fun W (hW : Below w.heap.size w W) => pslotRight_any xs[k]! c[k]! W (hxk.below hW) hq.1 hq.2.1 hq.2.2)
      have HPrev : Hid (∀ k', k = k' + 1 → ∀ W, Below w.heap.size w W → W.cell? ⟨b, off + k' * 10, none⟩ = some (.int .i64 (c[k']!).t.d) ∧ W.cell? ⟨b, off + k' * 10 + 1, none⟩ = some (.int .i64 (c[k']!).t.c0) ∧ W.cell? ⟨b, off + k' * 10 + 2, none⟩ = some (.int .i64 (c[k']!).t.c1) ∧ W.cell? ⟨b, off + k' * 10 + 3, none⟩ = some (.int .i64 (c[k']!).t.c2) ∧ W.cell? ⟨b, off + k' * 10 + 4, none⟩ = some (.int .i64 (c[k']!).t.c3)) := fun k' e W hW => by
        obtain ⟨a0, a1, a2, a3, a4, _⟩ := atSl (hrow.below hW hb) k' (by omega)
        rw [(HAr.out.2 k' (by omega)).t] at a0 a1 a2 a3 a4
        exact ⟨a0, a1, a2, a3, a4⟩
      have HNo1 := Lib.hid (fun h => rightSl_no_ok (c := c) (k := k) hlt h)
      have HNo2 : Hid (∀ k', k = k' + 1 → (c[k']!).t.lt (c[k]!).t = false → rightSl c = false) := fun k' e h => rightSl_no_lt (c := c) (k := k') (by omega) (by rw [← e]; exact h)
      have HUp := Lib.hid (fun h1 h2 => goodSl_succ (c := c) (k := k) hlt HU.out h1 h2)
      have hxt := hxk.t
      generalize okS c[k]! = ok at *
      rw [← hxt] at HNo2 HUp
      generalize xs[k]! = x at *
      obtain ⟨⟨td, t0, t1, t2, t3⟩, p0, n0, c0, p1, n1, c1, p2, n2, c2, xd, xf⟩ := x
      dsimp only at e0 e1 e2 e3 e4 e5 e6 e7 e8 e9 HK
      clear hxk hq hrow hxt HU
      go_upto_region 4 with (fail)
      refine gen_world (fun W3 => Below wr.heap.size wr W3 ∧ Boxed W3 wr.heap.size #[.int .i64 td, .int .i64 t0, .int .i64 t1, .int .i64 t2, .int .i64 t3, .slice p0 n0 c0, .slice p1 n1 c1, .slice p2 n2 c2, .bool xd, .bool xf] 40) ⟨by first | exact (Below.refl _ _).alloc (Nat.le_refl _) _ | go_grown, by first | exact heap_alloc_new _ _ | skip⟩ ?_
      rintro w3 ⟨hb3, hx3⟩
      have HBw := Lib.hid (bcall HB.out hb3 HB.out.size)
      have HX := Lib.hid hx3
      have b0 := hx3.cell 0
      have b1 := hx3.cell 1
      have b2 := hx3.cell 2
      have b3 := hx3.cell 3
      have b4 := hx3.cell 4
      have b5 := hx3.cell 5
      have b6 := hx3.cell 6
      have b7 := hx3.cell 7
      have b8 := hx3.cell 8
      have b9 := hx3.cell 9
      dsimp at b0 b1 b2 b3 b4 b5 b6 b7 b8 b9
      generalize wr.heap.size = bx at *
      clear e0 e1 e2 e3 e4 e5 e6 e7 e8 e9 hb3 hx3 HB
      go_wp2_with fail
      refine (HK.out _ HBw.out).mono ?_
      rintro e w4 ⟨rfl, hb4⟩
      have HB4 := Lib.hid (bcall HBw.out hb4 HBw.out.size)
      have HX4 := Lib.hid (HX.out.below hb4 HX.out.lt)
      clear b0 b1 b2 b3 b4 b5 b6 b7 b8 b9 hb4 HX HBw HK
      cases ok
      · have HR := Lib.hid (HNo1.out rfl)
        clear HNo1 HNo2 HUp
        go_wp2
        go_returns
        exact ⟨ret_bool HR.out.symm, HB4.out⟩
      · have HUp2 := Lib.hid (HUp.out rfl)
        clear HNo1 HUp
        by_cases hk0 : k = 0
        · subst hk0
          have HU3 := Lib.hid (HUp2.out (fun k' q => absurd q (by omega)))
          have d5 : decide ((0 : Int) < ((0 : Nat) : Int)) = false := rfl
          clear HNo2 HUp2 HPrev
          go_wp2_with fail
          refine wp_region_beh (by kernel_rfl) (by kernel_rfl) ?_
          repeat (first | go_big_quiet_step (fail) | quiet_step (fail))
          refine wpQuiet_nil ?_
          intro _ hw'
          obtain ⟨g, hw''⟩ := hw'
          subst hw''
          have HBg := Lib.hid (bcall HB4.out g.h HB4.out.size)
          generalize g.w = wq at *
          clear g
          go_wp2
          go_roundg (c.length - (0 + 1))
          case measure => omega
          case rel => exact ⟨0 + 1, by omega, by omega, by go_num, HBg.out, HU3.out⟩
        · obtain ⟨k', rfl⟩ : ∃ k', k = k' + 1 := ⟨k - 1, by omega⟩
          obtain ⟨p0, p1, p2, p3, p4⟩ := HPrev.out k' rfl w4 HB4.out
          have HN2 := Lib.hid (HNo2.out k' rfl)
          have HU3 := Lib.hid (fun (q : (c[k']!).t.lt ⟨td, t0, t1, t2, t3⟩ = true) => HUp2.out fun k2 e2 => by cases e2; exact q)
          have HAq0 := fun W => less_anyC (c[k']!).t ⟨td, t0, t1, t2, t3⟩ W
          generalize TV.lt (c[k']!).t ⟨td, t0, t1, t2, t3⟩ = ab at *
          generalize (c[k']!).t = y at *
          have P0 := fun p => beh_cell p0 p
          have P1 := fun p => beh_cell p1 p
          have P2 := fun p => beh_cell p2 p
          have P3 := fun p => beh_cell p3 p
          have P4 := fun p => beh_cell p4 p
          have B0 := fun p => beh_cell (show w4.cell? ⟨bx, 0, none⟩ = some (.int .i64 td) from HX4.out.cell 0) p
          have B1 := fun p => beh_cell (show w4.cell? ⟨bx, 1, none⟩ = some (.int .i64 t0) from HX4.out.cell 1) p
          have B2 := fun p => beh_cell (show w4.cell? ⟨bx, 2, none⟩ = some (.int .i64 t1) from HX4.out.cell 2) p
          have B3 := fun p => beh_cell (show w4.cell? ⟨bx, 3, none⟩ = some (.int .i64 t2) from HX4.out.cell 3) p
          have B4 := fun p => beh_cell (show w4.cell? ⟨bx, 4, none⟩ = some (.int .i64 t3) from HX4.out.cell 4) p
          have HAq := Lib.hid (fun p : Beh w4 => HAq0 p.w)
          have d5 : decide ((0 : Int) < ((k' + 1 : Nat) : Int)) = true := decide_eq_true (by omega)
          have hkn' : (k' : Int) < (c.length : Int) := by omega
          clear p0 p1 p2 p3 p4 HNo2 HUp2 HPrev HAq0 HX4
          cases ab
          · have HR := Lib.hid (HN2.out rfl)
            clear HN2 HU3
            go_wp2_with fail
            refine wp_region_beh (by kernel_rfl) (by kernel_rfl) ?_
            repeat (first | go_big_quiet_step (first | (with_reducible exact Calls.beh (HAq.out _))) | quiet_step (first | (with_reducible exact Calls.beh (HAq.out _))))
            refine wpQuiet_nil ?_
            intro _ hw'
            obtain ⟨g, hw''⟩ := hw'
            subst hw''
            have HBg := Lib.hid (bcall HB4.out g.h HB4.out.size)
            generalize g.w = wq at *
            clear g
            go_wp2
            go_returns
            exact ⟨ret_bool HR.out.symm, HBg.out⟩
          · have HU4 := Lib.hid (HU3.out rfl)
            clear HN2 HU3
            go_wp2_with fail
            refine wp_region_beh (by kernel_rfl) (by kernel_rfl) ?_
            repeat (first | go_big_quiet_step (first | (with_reducible exact Calls.beh (HAq.out _))) | quiet_step (first | (with_reducible exact Calls.beh (HAq.out _))))
            refine wpQuiet_nil ?_
            intro _ hw'
            obtain ⟨g, hw''⟩ := hw'
            subst hw''
            have HBg := Lib.hid (bcall HB4.out g.h HB4.out.size)
            generalize g.w = wq at *
            clear g
            go_wp2
            go_roundg (c.length - (k' + 1 + 1))
            case measure => omega
            case rel => exact ⟨k' + 1 + 1, by omega, by omega, by go_num, HBg.out, HU4.out⟩
    · obtain rfl : k = c.length := by omega
      have HR : Hid (rightSl c = true) := decide_eq_true (by have := HU.out; rw [List.take_length] at this; exact this)
      go_wp2
      go_returns
      exact ⟨ret_bool HR.out.symm, HB.out⟩
end Go.Proofs.YthhceggcdaljdaaGreat
