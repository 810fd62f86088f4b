/- Apply over ports in memory; Linear; the law's awake and short -/
import Derived.Test.YtgmpgemgoplafaaG37
import Derived.Test.YtgmpgemgoplafaaG03
import Derived.Test.YtgmpgemgoplafaaG40
import Derived.Test.YtgmpgemgoplafaaRows
import Derived.WalkKit
import Derived.ProofKit
import Derived.OpenShut
import Derived.Carry
import Derived.ChangeSame
namespace Go.Proofs.Ytgmpgemgoplafaa
open Go.RowKit
set_option linter.unusedVariables false
set_option linter.unusedSimpArgs false
attribute [local go_sem ↓] eqRec neRec eqItem neItem

theorem there_mem {a : List IV} : ∀ c ∈ thereI a, c ∈ a ∧ 0 < c.n ∧ c.n ≤ 2147483648 := fun c hc => by
  unfold thereI at hc
  split at hc
  · rename_i hr
    have hg := (rightI_iff a).1 hr
    have h1 := List.mem_filter.1 hc
    have h2 := hg.1 c h1.1
    have h3 : 0 < c.n := by simpa using h1.2
    refine ⟨h1.1, h3, ?_⟩
    simp [IV.ok, fitsN] at h2
    omega
  · cases hc
theorem there_len (a : List IV) : (thereI a).length ≤ a.length := by
  unfold thereI
  split
  · exact List.length_filter_le _ _
  · exact Nat.zero_le _
theorem there_there (a : List IV) : thereI (thereI a) = thereI a := by
  by_cases hr : rightI a = true
  · have hg := (rightI_iff a).1 hr
    have h1 : thereI a = posI a := by unfold thereI; rw [if_pos hr]
    have hg2 : goodI (posI a) := ⟨fun c hc => hg.1 c (List.mem_filter.1 hc).1, hg.2.filter _⟩
    rw [h1]
    unfold thereI
    rw [if_pos ((rightI_iff _).2 hg2)]
    unfold posI
    rw [List.filter_filter]
    simp
  · have h1 : thereI a = [] := by unfold thereI; rw [if_neg hr]
    rw [h1]
    rfl
/-- Apply's answer -/
def ApR (k arg : Int) (p : List NV) (t0 t1 : List IV) (w : World) (e : Ending) (w' : World) : Prop :=
  ∃ v, e = .returned (.tuple #[v, .bool (applyO k arg p t0 t1).2]) ∧ RI.Own w.heap.size w' v (applyO k arg p t0 t1).1 ∧ Below w.heap.size w w'
/-- an operator in memory -/
structure NodeA (k : Int) (w : World) (q : Option Addr) (c : Nat) (arg : Int) (p : List NV) : Prop where
  i : RC.Is w (.slice q p.length c) p
  l : k = 2 → p.length ≤ 900000
  n : ∀ x ∈ p, inR x.n
  a : inR arg
theorem NodeA.below {k : Int} {w W : World} {q : Option Addr} {c : Nat} {arg : Int} {p : List NV} (h : NodeA k w q c arg p) (hb : Below w.heap.size w W) : NodeA k W q c arg p := ⟨h.i.below hb, h.l, h.n, h.a⟩
/-- items of a port -/
structure PortA (w : World) (v : Value) (a : List IV) : Prop where
  i : RI.Is w v a
  l : a.length ≤ 400000
  q : ∀ c ∈ a, inR c.t.k ∧ inR c.t.v
theorem PortA.below {w W : World} {v : Value} {a : List IV} (h : PortA w v a) (hb : Below w.heap.size w W) : PortA W v a := ⟨h.i.below hb, h.l, h.q⟩
theorem apply_two {k s arg : Int} {q : Option Addr} {c : Nat} {p : List NV} {va vb : Value} {a b : List IV} {g : Nat} {w : World} (hN : NodeA k w q c arg p) (hA : PortA w va a) (hB : PortA w vb b) (g0 : w.cell? ⟨g, 0, none⟩ = some va) (g1 : w.cell? ⟨g, 1, none⟩ = some vb) :
    Calls Try.prog 10 #[.agg #[.int .i64 k, .int .i64 s, .int .i64 arg, .slice q p.length c], .slice (some ⟨g, 0, none⟩) 2 2] w (ApR k arg p (thereI a) (thereI b) w) := by
  have hg : g < w.heap.size := cell_in g0
  refine papply_any k s arg q c p _ 2 2 _ _ w hN.i hN.l hN.n hN.a (Nat.le_trans (there_len a) hA.l) (Nat.le_trans (there_len b) hB.l) (fun x hx => ⟨hA.q x (there_mem x hx).1, (there_mem x hx).2⟩) (fun x hx => ⟨hB.q x (there_mem x hx).1, (there_mem x hx).2⟩) (fun V hV => ?_) (fun V hV => ?_)
  · exact pthere_in a va g 0 2 2 0 V (by have := hA.l; omega) (by decide) (by decide) (Nat.lt_of_lt_of_le hg hV.size) ((hV.cell (p := ⟨g, 0, none⟩) hg).trans g0) (hA.i.below hV)
  · exact pthere_in b vb g 0 2 2 1 V (by have := hB.l; omega) (by decide) (by decide) (Nat.lt_of_lt_of_le hg hV.size) ((hV.cell (p := ⟨g, 1, none⟩) hg).trans g1) (hB.i.below hV)
theorem apply_one {k s arg : Int} {q : Option Addr} {c : Nat} {p : List NV} {va : Value} {a : List IV} {g : Nat} {w : World} (hN : NodeA k w q c arg p) (hA : PortA w va a) (g0 : w.cell? ⟨g, 0, none⟩ = some va) :
    Calls Try.prog 10 #[.agg #[.int .i64 k, .int .i64 s, .int .i64 arg, .slice q p.length c], .slice (some ⟨g, 0, none⟩) 1 1] w (ApR k arg p (thereI a) [] w) := by
  have hg : g < w.heap.size := cell_in g0
  refine papply_any k s arg q c p _ 1 1 _ _ w hN.i hN.l hN.n hN.a (Nat.le_trans (there_len a) hA.l) (Nat.zero_le _) (fun x hx => ⟨hA.q x (there_mem x hx).1, (there_mem x hx).2⟩) (fun x hx => by cases hx) (fun V hV => ?_) (fun V hV => ?_)
  · exact pthere_in a va g 0 1 1 0 V (by have := hA.l; omega) (by decide) (by decide) (Nat.lt_of_lt_of_le hg hV.size) ((hV.cell (p := ⟨g, 0, none⟩) hg).trans g0) (hA.i.below hV)
  · exact pthere_out _ 1 1 1 V (by decide) (by decide)
theorem apply_zero {k s arg : Int} {q : Option Addr} {c : Nat} {p : List NV} {w : World} (hN : NodeA k w q c arg p) :
    Calls Try.prog 10 #[.agg #[.int .i64 k, .int .i64 s, .int .i64 arg, .slice q p.length c], .slice none 0 0] w (ApR k arg p [] [] w) :=
  papply_any k s arg q c p _ 0 0 _ _ w hN.i hN.l hN.n hN.a (Nat.zero_le _) (Nat.zero_le _) (fun x hx => by cases hx) (fun x hx => by cases hx) (fun V hV => pthere_out _ 0 0 0 V (by decide) (by decide)) (fun V hV => pthere_out _ 0 0 1 V (by decide) (by decide))
set_option maxRecDepth 100000 in
theorem plinear_any (k : Int) (w : World) : Calls Try.prog 8 #[.int .i64 k] w (Ret (.bool (linearO k)) w) := by
  have H : Hid (∀ b, linearO k = b → Ret (.bool (linearO k)) w (.returned (.bool b)) w) := fun b h => ⟨by rw [h], Below.refl _ _⟩
  by_cases e1 : k = 1
  · have h := H.out true (by subst e1; rfl)
    generalize linearO k = z at *
    clear H
    subst e1
    go_enter Try.func8, Try.ntmps8
    go_wp2
    go_returns
    exact h
  by_cases e2 : k = 2
  · have h := H.out true (by subst e2; rfl)
    generalize linearO k = z at *
    clear H
    subst e2
    go_enter Try.func8, Try.ntmps8
    go_wp2
    go_returns
    exact h
  by_cases e3 : k = 3
  · have h := H.out true (by subst e3; rfl)
    generalize linearO k = z at *
    clear H
    subst e3
    go_enter Try.func8, Try.ntmps8
    go_wp2
    go_returns
    exact h
  by_cases e4 : k = 4
  · have h := H.out true (by subst e4; rfl)
    generalize linearO k = z at *
    clear H
    subst e4
    go_enter Try.func8, Try.ntmps8
    go_wp2
    go_returns
    exact h
  by_cases e5 : k = 5
  · have h := H.out true (by subst e5; rfl)
    generalize linearO k = z at *
    clear H
    subst e5
    go_enter Try.func8, Try.ntmps8
    go_wp2
    go_returns
    exact h
  by_cases e10 : k = 10
  · have h := H.out true (by subst e10; rfl)
    generalize linearO k = z at *
    clear H
    subst e10
    go_enter Try.func8, Try.ntmps8
    go_wp2
    go_returns
    exact h
  by_cases e11 : k = 11
  · have h := H.out true (by subst e11; rfl)
    generalize linearO k = z at *
    clear H
    subst e11
    go_enter Try.func8, Try.ntmps8
    go_wp2
    go_returns
    exact h
  by_cases e12 : k = 12
  · have h := H.out true (by subst e12; rfl)
    generalize linearO k = z at *
    clear H
    subst e12
    go_enter Try.func8, Try.ntmps8
    go_wp2
    go_returns
    exact h
  by_cases e13 : k = 13
  · have h := H.out true (by subst e13; rfl)
    generalize linearO k = z at *
    clear H
    subst e13
    go_enter Try.func8, Try.ntmps8
    go_wp2
    go_returns
    exact h
  by_cases e15 : k = 15
  · have h := H.out true (by subst e15; rfl)
    generalize linearO k = z at *
    clear H
    subst e15
    go_enter Try.func8, Try.ntmps8
    go_wp2
    go_returns
    exact h
  have h := H.out false (by unfold linearO; simp [e1, e2, e3, e4, e5, e10, e11, e12, e13, e15])
  generalize linearO k = z at *
  clear H
  go_enter Try.func8, Try.ntmps8
  go_wp2
  go_returns
  exact h
theorem is_lit2 {W : World} {b : Nat} {x y : IV} {t : TypeId} (e : W.heap[b]? = some (.cells #[.int .i64 x.t.k, .int .i64 x.t.v, .int .i64 x.n, .int .i64 y.t.k, .int .i64 y.t.v, .int .i64 y.n] t (0, 0))) : RI.Is W (.slice (some ⟨b, 0, none⟩) 2 2) [x, y] := by
  refine .inr ⟨by simp, b, 0, 2, rfl, (Array.getElem?_eq_some_iff.1 e).1, fun j hj i u hu => ?_⟩
  have hk : RI.k = 3 := rfl
  rw [hk]
  have hi : i < 3 := by have := (List.getElem?_eq_some_iff.1 hu).1; rw [RI.len] at this; exact this
  match j, hj with
  | 0, _ =>
    match i, hi with
    | 0, _ => cases hu; exact cells_of e rfl
    | 1, _ => cases hu; exact cells_of e rfl
    | 2, _ => cases hu; exact cells_of e rfl
  | 1, _ =>
    match i, hi with
    | 0, _ => cases hu; exact cells_of e rfl
    | 1, _ => cases hu; exact cells_of e rfl
    | 2, _ => cases hu; exact cells_of e rfl
set_option maxRecDepth 100000 in
set_option maxHeartbeats 4000000 in
theorem awake_any (w : World) : Calls Try.prog 7 #[] w (Ret (.bool true) w) := by
  have HL : Hid (∀ W, Calls Try.prog 8 #[.int .i64 2] W (Ret (.bool true) W)) := fun W => plinear_any 2 W
  have HA : Hid (∀ W g b, W.cell? ⟨g, 0, none⟩ = some (.slice (some ⟨b, 0, none⟩) 2 2) → RI.Is W (.slice (some ⟨b, 0, none⟩) 2 2) [⟨⟨1, 2⟩, 2⟩, ⟨⟨1, 3⟩, 1⟩] → Calls Try.prog 10 #[.agg #[.int .i64 6, .int .i64 0, .int .i64 0, .slice none 0 0], .slice (some ⟨g, 0, none⟩) 1 1] W (fun e W' => ∃ v, e = .returned (.tuple #[v, .bool true]) ∧ RI.Own W.heap.size W' v [⟨⟨1, 7⟩, 1⟩] ∧ Below W.heap.size W W')) := fun W g b hg hI => by
    have h := apply_one (k := 6) (s := 0) (arg := 0) (q := none) (c := 0) (p := []) (w := W) (g := g) ⟨.inl ⟨rfl, none, 0, rfl, fun _ => rfl⟩, fun _ => by decide, fun x hx => (by cases hx), by unfold inR; decide⟩ ⟨hI, by decide, fun x hx => by
      simp at hx
      rcases hx with rfl | rfl <;> exact ⟨by unfold inR; decide, by unfold inR; decide⟩⟩ hg
    refine h.mono ?_
    rintro e W' ⟨v, rfl, hO, hb⟩
    rw [show applyO 6 0 [] (thereI [⟨⟨1, 2⟩, 2⟩, ⟨⟨1, 3⟩, 1⟩]) [] = ([⟨⟨1, 7⟩, 1⟩], true) by decide +kernel] at hO ⊢
    exact ⟨v, rfl, hO, hb⟩
  go_enter Try.func7, Try.ntmps7
  go_wp2_with fail
  have e1 := heap_old (World.alloc_heap_new w (.cells #[.int .i64 1, .int .i64 2, .int .i64 2, .int .i64 1, .int .i64 3, .int .i64 1] 43)) (.cells #[.slice (some ⟨w.heap.size, 0, none⟩) 2 2] 28)
  have e2 := heap_new (w.alloc (.cells #[.int .i64 1, .int .i64 2, .int .i64 2, .int .i64 1, .int .i64 3, .int .i64 1] 43)) (.cells #[.slice (some ⟨w.heap.size, 0, none⟩) 2 2] 28) (w.heap.size + 1) (by simp)
  refine (HA.out _ _ w.heap.size (cells_of e2 rfl) (is_lit2 e1)).mono ?_
  rintro e W1 ⟨v, rfl, hO, hb⟩
  obtain ⟨pv, cv, rfl⟩ := hO.is.slice
  obtain ⟨b, off, rfl, hbl, hrow⟩ := is_row' hO.is (by decide)
  obtain ⟨y0, y1, y2⟩ := atI hrow 0 (by decide)
  simp only [Nat.zero_mul, Nat.add_zero, List.getElem!_cons_zero] at y0 y1 y2
  have HB : Hid (Below w.heap.size w W1) := bcall (by go_grown) hb (by go_size)
  clear HA hO hrow hb e1 e2
  go_wp2_with (go_at_call 8; refine (HL.out _).mono ?_; rintro e W2 ⟨rfl, hb2⟩; have HB2 : Hid (Below w.heap.size w W2) := bcall HB.out hb2 HB.out.size)
  go_returns
  exact ⟨rfl, HB2.out⟩
end Go.Proofs.Ytgmpgemgoplafaa
/- short, of two ports -/
namespace Go.Proofs.Ytgmpgemgoplafaa
open Go.RowKit
set_option linter.unusedVariables false
set_option linter.unusedSimpArgs false

set_option maxRecDepth 100000 in
set_option maxHeartbeats 4000000 in
theorem short_two {k s arg : Int} {q : Option Addr} {c : Nat} {p : List NV} {pa pb : Option Addr} {na ca nb cb : Nat} {g : Nat} {w : World} (g0 : w.cell? ⟨g, 0, none⟩ = some (.slice pa na ca)) (g1 : w.cell? ⟨g, 1, none⟩ = some (.slice pb nb cb)) :
    Calls Try.prog 14 #[.agg #[.int .i64 k, .int .i64 s, .int .i64 arg, .slice q p.length c], .slice (some ⟨g, 0, none⟩) 2 2] w (Ret (.bool (decide (p.length ≤ 100 ∧ na ≤ 60 ∧ nb ≤ 60))) w) := by
  have HR : Hid (∀ z, decide (p.length ≤ 100 ∧ na ≤ 60 ∧ nb ≤ 60) = z → Ret (.bool (decide (p.length ≤ 100 ∧ na ≤ 60 ∧ nb ≤ 60))) w (.returned (.bool z)) (w.alloc (.cells #[.int .i64 k, .int .i64 s, .int .i64 arg, .slice q p.length c] 24))) := fun z h => ⟨by rw [h], by go_grown⟩
  have hg : g < w.heap.size := cell_in g0
  by_cases h1 : (100 : Int) < (p.length : Int)
  · have h := HR.out false (decide_eq_false (by omega))
    clear HR
    generalize decide (p.length ≤ 100 ∧ na ≤ 60 ∧ nb ≤ 60) = z at *
    go_enter Try.func14, Try.ntmps14
    go_wp2
    go_returns
    exact h
  · by_cases h2 : (60 : Int) < (na : Int)
    · have h := HR.out false (decide_eq_false (by omega))
      clear HR
      generalize decide (p.length ≤ 100 ∧ na ≤ 60 ∧ nb ≤ 60) = z at *
      go_enter Try.func14, Try.ntmps14
      go_wp2
      refine wp_loop_rounds 3 ?_
      rw [rounds_succ]
      go_wp2
      go_returns
      exact h
    · by_cases h3 : (60 : Int) < (nb : Int)
      · have h := HR.out false (decide_eq_false (by omega))
        clear HR
        generalize decide (p.length ≤ 100 ∧ na ≤ 60 ∧ nb ≤ 60) = z at *
        go_enter Try.func14, Try.ntmps14
        go_wp2
        refine wp_loop_rounds 3 ?_
        rw [rounds_succ]
        go_wp2
        rw [rounds_succ]
        go_wp2
        go_returns
        exact h
      · have h := HR.out true (decide_eq_true (by omega))
        clear HR
        generalize decide (p.length ≤ 100 ∧ na ≤ 60 ∧ nb ≤ 60) = z at *
        go_enter Try.func14, Try.ntmps14
        go_wp2
        refine wp_loop_rounds 3 ?_
        rw [rounds_succ]
        go_wp2
        rw [rounds_succ]
        go_wp2
        rw [rounds_succ]
        go_wp2
        go_returns
        exact h
end Go.Proofs.Ytgmpgemgoplafaa
namespace Go.Proofs.Ytgmpgemgoplafaa
open Go.ChangeShapes Go.WideShapes Go.ChangeAt Go.RowKit
set_option linter.unusedVariables false

theorem lift_own : ownKnob Try.prog.godebug = none := by kernel_rfl
theorem lift_laid : laidOutB Try.prog = true := by kernel_rfl

section
variable {H : Type} {enc : TypeId × Value → H} {P : Program}

theorem lift_trod (hl : laidOutB P = true) {W W' : World} (hb : Below W.heap.size W W') (sp : Nat → Bool) : ∀ {ts : List TypeId} {vs : List Value} {ds : List (DataW H)} {ps : List MemPlace},
    (∀ t ∈ ts, P.readableRec t = true ∧ t < P.types.size) → DataW.TrodAll enc P W 0 (fun _ => true) true ts vs ds ps → (∀ p ∈ ps, p.block < W.heap.size) → (∀ p ∈ ps, sp p.block = true) → DataW.TrodAll enc P W' 0 sp true ts vs ds ps
  | [], [], [], _, _, h, _, _ => h
  | t :: ts, v :: vs, d :: ds, _, ht, ⟨p, q, h1, h2, e⟩, hlt, hsp => by
    subst e
    exact ⟨p, q, WideElems.Trod_stays hl (ht t (by simp)).1 (ht t (by simp)).2 h1 (fun x hx => hb.same (hlt x (by simp [hx]))) (fun x hx => hsp x (by simp [hx])),
      lift_trod hl hb sp (fun t h => ht t (by simp [h])) h2 (fun x hx => hlt x (by simp [hx])) (fun x hx => hsp x (by simp [hx])), rfl⟩
  | [], [], _ :: _, _, _, h, _, _ => h.elim
  | [], _ :: _, _, _, _, h, _, _ => h.elim
  | _ :: _, [], _, _, _, h, _, _ => h.elim
  | _ :: _, _ :: _, [], _, _, h, _, _ => h.elim

theorem lift_len {W : World} {b : Nat} {sp : Nat → Bool} {hd : Bool} : ∀ {ts : List TypeId} {vs : List Value} {ds : List (DataW H)} {ps : List MemPlace}, DataW.TrodAll enc P W b sp hd ts vs ds ps → vs.length = ts.length ∧ ds.length = ts.length
  | [], [], [], _, _ => ⟨rfl, rfl⟩
  | _ :: _, _ :: _, _ :: _, _, ⟨_, _, _, h2, _⟩ => by
    have := lift_len h2
    exact ⟨by simp [this.1], by simp [this.2]⟩
  | [], [], _ :: _, _, h => h.elim
  | [], _ :: _, _, _, h => h.elim
  | _ :: _, [], _, _, h => h.elim
  | _ :: _, _ :: _, [], _, h => h.elim

theorem lift_post {f : Func} {s : ChangeSpec} {apart fresh handsOn again : Bool} {W W' : World} {args : Array Value} {v : Value} {ds gs : List (DataW H)} {before pa pv : List MemPlace}
    (hW : DataW.Whole enc P f.params.toList s.vars apart W args.toList ds gs before)
    (hres : ∀ (b : Nat) (sp : Nat → Bool) (hd : Bool), DataW.TrodAll enc P W' b sp hd f.resultTypes.toList (v.resultList f.resultTypes.size) (s.fn H (ds ++ gs)).results [])
    (hargs : ∀ sp : Nat → Bool, (∀ p ∈ before, sp p.block = true) → DataW.TrodAll enc P W' 0 sp true f.params.toList args.toList (s.fn H (ds ++ gs)).args pa)
    (hvars : ∀ sp : Nat → Bool, (∀ p ∈ before, sp p.block = true) → DataW.TrodVars enc P W' sp s.vars (s.fn H (ds ++ gs)).vars pv)
    (hps : before = pa ++ pv) (hb : Below W.heap.size W W')
    (hok : ∀ (j : Nat) (t : TypeId) (r : Value), f.resultTypes[j]? = some t → (v.resultList f.resultTypes.size)[j]? = some r → Value.okWide P W' .any 0 t r) :
    s.post enc P f apart fresh handsOn again W args v W' := by
  have hlt : ∀ p ∈ before, p.block < W.heap.size := fun p hp => hW.lt p hp
  have hold : ∀ p ∈ before, (fun b => decide (b < W.heap.size)) p.block = true := fun p hp => by simpa using hlt p hp
  refine ⟨ds, gs, before, [], pa, pv, hW, hres _ _ _, hargs _ hold, hvars _ hold, World.keptBut_mono (fun p hp => ⟨hp, ?_⟩) (hb.frame (· ∈ before)), fun _ => ?_⟩
  · rw [hps, List.mem_append] at hp
    exact Or.inr hp
  · obtain ⟨_, _, _, _, _, hz, hn⟩ := hW
    refine ⟨hok, _, _, ([] ++ pa) ++ pv, ⟨[] ++ pa, pv, trodAll_append (hargs _ (fun _ _ => rfl)) (hres _ _ _), hvars _ (fun _ _ => rfl), rfl, ?_, ?_⟩, ?_⟩
    · intro b off hp
      have hin : MemPlace.cell b off ∈ before := by rw [hps]; simpa using hp
      rw [hb.frozen (hlt _ hin)]
      exact hz b off hin
    · intro ha
      have := hn ha
      rw [hps] at this
      simpa using this
    · intro p hp _
      rw [hps]
      simpa using hp

/-- a law: it returns true, and what was there is as it was -/
theorem lift_law {f : Func} {s : ChangeSpec} {apart fresh handsOn again : Bool} {tb : TypeId} {W : World} {args : Array Value} {ds gs : List (DataW H)} {before : List MemPlace}
    (hl : laidOutB P = true) (htb : P.underlying tb = some .bool) (hrt : f.resultTypes = #[tb]) (hpt : ∀ t ∈ f.params.toList, P.readableRec t = true ∧ t < P.types.size) (hv : s.vars = [])
    (hfn : s.fn H ds = { results := [.lit (.bool true)], args := ds })
    (hW : DataW.Whole enc P f.params.toList s.vars apart W args.toList ds gs before) {fid : FuncId}
    (h : Calls P fid args W fun e w' => e = .returned (.bool true) ∧ Below W.heap.size W w') :
    Calls P fid args W fun e W' => ∃ v, e = .returned v ∧ s.post enc P f apart fresh handsOn again W args v W' := by
  have hW' := hW
  have hlt : ∀ p ∈ before, p.block < W.heap.size := fun p hp => hW.lt p hp
  obtain ⟨p, q, hA, hV, hps, _, _⟩ := hW
  rw [hv] at hV
  obtain ⟨rfl, rfl⟩ := trodVars_none hV
  refine h.mono fun e W' ⟨he, hb⟩ => ⟨_, he, ?_⟩
  have hfn' : s.fn H (ds ++ []) = { results := [.lit (.bool true)], args := ds } := by rw [List.append_nil]; exact hfn
  refine lift_post (pa := p) (pv := []) hW' ?_ ?_ ?_ hps hb ?_
  · intro b sp hd
    rw [hfn', hrt]
    exact trodAll_mk1 (shut_bool htb _)
  · intro sp hsp
    rw [hfn']
    exact lift_trod hl hb sp hpt hA (fun x hx => hlt x (by rw [hps]; simp [hx])) (fun x hx => hsp x (by rw [hps]; simp [hx]))
  · intro sp hsp
    rw [hfn', hv]
    rfl
  · rw [hrt]
    exact ok_one (f := { f with resultTypes := #[tb] }) rfl rfl (okWide_bool_mk htb _)

theorem cell_int {W : World} {r : Reach} {b : Nat} {t : TypeId} {k : IntKind} {v : Value} (ht : P.underlying t = some (.int k)) (h : Cell.okWide P W r b t v) : ∃ n, v = .int k n ∧ k.has n := by
  unfold Cell.okWide Cell.ok at h
  rw [ht] at h
  cases v <;> simp at h
  obtain ⟨rfl, h2⟩ := h
  exact ⟨_, rfl, h2⟩
end
end Go.Proofs.Ytgmpgemgoplafaa
