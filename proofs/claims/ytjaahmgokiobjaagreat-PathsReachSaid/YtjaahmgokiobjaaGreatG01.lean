import Derived.Test.YtjaahmgokiobjaaGreatRows
import Derived.WalkKit
import Derived.ProofKit
import Derived.OpenShut
import Derived.Carry
import Derived.ChangeSame
import Derived.Test.YtjaahmgokiobjaaGreatProg
import Derived.Below
import Derived.Handy
import Derived.Deep.QuietTactic
import Derived.BigQuiet
import Derived.Lib.Hide
import Derived.Deep.Cut
import Derived.Deep.Light
namespace Go.Proofs.YtjaahmgokiobjaaGreat
open Go.ChangeShapes Go.WideShapes Go.ChangeAt Go.RowKit
set_option linter.unusedVariables false

theorem lift_own : ownKnob Tryz.prog.godebug = none := by kernel_rfl
theorem lift_laid : laidOutB Tryz.prog = true := by kernel_rfl

section
variable {H : Type} {enc : TypeId × Value → H} {P : Program}

theorem lift_trod (hl : laidOutB P = true) {W W' : World} (hb : Below W.heap.size W W') (sp : Nat → Bool) : ∀ {ts : List TypeId} {vs : List Value} {ds : List (DataW H)} {ps : List MemPlace},
    (∀ t ∈ ts, P.readableRec t = true ∧ t < P.types.size) → DataW.TrodAll enc P W 0 (fun _ => true) true ts vs ds ps → (∀ p ∈ ps, p.block < W.heap.size) → (∀ p ∈ ps, sp p.block = true) → DataW.TrodAll enc P W' 0 sp true ts vs ds ps
  | [], [], [], _, _, h, _, _ => h
  | t :: ts, v :: vs, d :: ds, _, ht, ⟨p, q, h1, h2, e⟩, hlt, hsp => by
    subst e
    exact ⟨p, q, WideElems.Trod_stays hl (ht t (by simp)).1 (ht t (by simp)).2 h1 (fun x hx => hb.same (hlt x (by simp [hx]))) (fun x hx => hsp x (by simp [hx])),
      lift_trod hl hb sp (fun t h => ht t (by simp [h])) h2 (fun x hx => hlt x (by simp [hx])) (fun x hx => hsp x (by simp [hx])), rfl⟩
  | [], [], _ :: _, _, _, h, _, _ => h.elim
  | [], _ :: _, _, _, _, h, _, _ => h.elim
  | _ :: _, [], _, _, _, h, _, _ => h.elim
  | _ :: _, _ :: _, [], _, _, h, _, _ => h.elim

theorem lift_len {W : World} {b : Nat} {sp : Nat → Bool} {hd : Bool} : ∀ {ts : List TypeId} {vs : List Value} {ds : List (DataW H)} {ps : List MemPlace}, DataW.TrodAll enc P W b sp hd ts vs ds ps → vs.length = ts.length ∧ ds.length = ts.length
  | [], [], [], _, _ => ⟨rfl, rfl⟩
  | _ :: _, _ :: _, _ :: _, _, ⟨_, _, _, h2, _⟩ => by
    have := lift_len h2
    exact ⟨by simp [this.1], by simp [this.2]⟩
  | [], [], _ :: _, _, h => h.elim
  | [], _ :: _, _, _, h => h.elim
  | _ :: _, [], _, _, h => h.elim
  | _ :: _, _ :: _, [], _, h => h.elim

theorem lift_post {f : Func} {s : ChangeSpec} {apart fresh handsOn again : Bool} {W W' : World} {args : Array Value} {v : Value} {ds gs : List (DataW H)} {before pa pv : List MemPlace}
    (hW : DataW.Whole enc P f.params.toList s.vars apart W args.toList ds gs before)
    (hres : ∀ (b : Nat) (sp : Nat → Bool) (hd : Bool), DataW.TrodAll enc P W' b sp hd f.resultTypes.toList (v.resultList f.resultTypes.size) (s.fn H (ds ++ gs)).results [])
    (hargs : ∀ sp : Nat → Bool, (∀ p ∈ before, sp p.block = true) → DataW.TrodAll enc P W' 0 sp true f.params.toList args.toList (s.fn H (ds ++ gs)).args pa)
    (hvars : ∀ sp : Nat → Bool, (∀ p ∈ before, sp p.block = true) → DataW.TrodVars enc P W' sp s.vars (s.fn H (ds ++ gs)).vars pv)
    (hps : before = pa ++ pv) (hb : Below W.heap.size W W')
    (hok : ∀ (j : Nat) (t : TypeId) (r : Value), f.resultTypes[j]? = some t → (v.resultList f.resultTypes.size)[j]? = some r → Value.okWide P W' .any 0 t r) :
    s.post enc P f apart fresh handsOn again W args v W' := by
  have hlt : ∀ p ∈ before, p.block < W.heap.size := fun p hp => hW.lt p hp
  have hold : ∀ p ∈ before, (fun b => decide (b < W.heap.size)) p.block = true := fun p hp => by simpa using hlt p hp
  refine ⟨ds, gs, before, [], pa, pv, hW, hres _ _ _, hargs _ hold, hvars _ hold, World.keptBut_mono (fun p hp => ⟨hp, ?_⟩) (hb.frame (· ∈ before)), fun _ => ?_⟩
  · rw [hps, List.mem_append] at hp
    exact Or.inr hp
  · obtain ⟨_, _, _, _, _, hz, hn⟩ := hW
    refine ⟨hok, _, _, ([] ++ pa) ++ pv, ⟨[] ++ pa, pv, trodAll_append (hargs _ (fun _ _ => rfl)) (hres _ _ _), hvars _ (fun _ _ => rfl), rfl, ?_, ?_⟩, ?_⟩
    · intro b off hp
      have hin : MemPlace.cell b off ∈ before := by rw [hps]; simpa using hp
      rw [hb.frozen (hlt _ hin)]
      exact hz b off hin
    · intro ha
      have := hn ha
      rw [hps] at this
      simpa using this
    · intro p hp _
      rw [hps]
      simpa using hp

/-- a law: it returns true, and what was there is as it was -/
theorem lift_law {f : Func} {s : ChangeSpec} {apart fresh handsOn again : Bool} {tb : TypeId} {W : World} {args : Array Value} {ds gs : List (DataW H)} {before : List MemPlace}
    (hl : laidOutB P = true) (htb : P.underlying tb = some .bool) (hrt : f.resultTypes = #[tb]) (hpt : ∀ t ∈ f.params.toList, P.readableRec t = true ∧ t < P.types.size) (hv : s.vars = [])
    (hfn : s.fn H ds = { results := [.lit (.bool true)], args := ds })
    (hW : DataW.Whole enc P f.params.toList s.vars apart W args.toList ds gs before) {fid : FuncId}
    (h : Calls P fid args W fun e w' => e = .returned (.bool true) ∧ Below W.heap.size W w') :
    Calls P fid args W fun e W' => ∃ v, e = .returned v ∧ s.post enc P f apart fresh handsOn again W args v W' := by
  have hW' := hW
  have hlt : ∀ p ∈ before, p.block < W.heap.size := fun p hp => hW.lt p hp
  obtain ⟨p, q, hA, hV, hps, _, _⟩ := hW
  rw [hv] at hV
  obtain ⟨rfl, rfl⟩ := trodVars_none hV
  refine h.mono fun e W' ⟨he, hb⟩ => ⟨_, he, ?_⟩
  have hfn' : s.fn H (ds ++ []) = { results := [.lit (.bool true)], args := ds } := by rw [List.append_nil]; exact hfn
  refine lift_post (pa := p) (pv := []) hW' ?_ ?_ ?_ hps hb ?_
  · intro b sp hd
    rw [hfn', hrt]
    exact trodAll_mk1 (shut_bool htb _)
  · intro sp hsp
    rw [hfn']
    exact lift_trod hl hb sp hpt hA (fun x hx => hlt x (by rw [hps]; simp [hx])) (fun x hx => hsp x (by rw [hps]; simp [hx]))
  · intro sp hsp
    rw [hfn', hv]
    rfl
  · rw [hrt]
    exact ok_one (f := { f with resultTypes := #[tb] }) rfl rfl (okWide_bool_mk htb _)

theorem cell_int {W : World} {r : Reach} {b : Nat} {t : TypeId} {k : IntKind} {v : Value} (ht : P.underlying t = some (.int k)) (h : Cell.okWide P W r b t v) : ∃ n, v = .int k n ∧ k.has n := by
  unfold Cell.okWide Cell.ok at h
  rw [ht] at h
  cases v <;> simp at h
  obtain ⟨rfl, h2⟩ := h
  exact ⟨_, rfl, h2⟩
end
end Go.Proofs.YtjaahmgokiobjaaGreat
namespace Go.Proofs.YtjaahmgokiobjaaGreat
open Go.ChangeShapes Go.WideShapes Go.ChangeAt Go.RowKit
set_option linter.unusedVariables false
section
variable {P : Program}
theorem open_num {W : World} {r : Reach} {b : Nat} {t : TypeId} {k : IntKind} {v : Value} (ht : P.underlying t = some (.int k)) (h : Value.okWide P W r b t v) : ∃ n, v = .int k n ∧ k.has n := by
  unfold Value.okWide at h
  rw [ht] at h
  exact cell_int ht h
theorem open_flag {W : World} {r : Reach} {b : Nat} {t : TypeId} {v : Value} (ht : P.underlying t = some .bool) (h : Value.okWide P W r b t v) : ∃ c, v = .bool c := by
  unfold Value.okWide at h
  rw [ht] at h
  unfold Cell.okWide Cell.ok at h
  rw [ht] at h
  cases v <;> simp at h
  exact ⟨_, rfl⟩
end
end Go.Proofs.YtjaahmgokiobjaaGreat
namespace Go.Proofs.YtjaahmgokiobjaaGreat
open Go.RowKit
set_option linter.unusedVariables false

def greatestS (d i : Int) : Int := if i ≥ d then 0 else if i = 0 then 1048576 else 64

theorem greatest_any (d i : Int) (w : World) :
    Calls Tryz.prog 74 #[.int .i64 d, .int .i64 i] w fun e w' => e = .returned (.int .i64 (greatestS d i)) ∧ w = w' := by
  by_cases h : i ≥ d
  · have h2 : d ≤ i := h
    go_enter Tryz.func74, Tryz.ntmps74
    go_wp2
    go_ret
    exact ⟨by simp [greatestS, h], rfl⟩
  · by_cases h0 : i = 0
    · subst h0
      have h2 : ¬ d ≤ 0 := h
      go_enter Tryz.func74, Tryz.ntmps74
      go_wp2
      go_ret
      exact ⟨by simp [greatestS]; omega, rfl⟩
    · have hb : (i == 0) = false := beq_eq_false_iff_ne.2 h0
      have h2 : ¬ d ≤ i := h
      go_enter Tryz.func74, Tryz.ntmps74
      go_wp2
      go_ret
      exact ⟨by simp [greatestS, h, h0], rfl⟩

def rightP (d c0 c1 c2 c3 : Int) : Prop := 1 ≤ d ∧ d ≤ 4 ∧ 0 ≤ c0 ∧ c0 ≤ greatestS d 0 ∧ 0 ≤ c1 ∧ c1 ≤ greatestS d 1 ∧ 0 ≤ c2 ∧ c2 ≤ greatestS d 2 ∧ 0 ≤ c3 ∧ c3 ≤ greatestS d 3
instance (d c0 c1 c2 c3 : Int) : Decidable (rightP d c0 c1 c2 c3) := by unfold rightP; infer_instance
def rightB (d c0 c1 c2 c3 : Int) : Bool := decide (rightP d c0 c1 c2 c3)

theorem ix4_0 (c0 c1 c2 c3 : Value) (w : World) : (Instr.index 27 (.agg #[c0, c1, c2, c3]) (.int .i64 0)).run Tryz.prog w = .ok c0 w := by kernel_rfl
theorem ix4_1 (c0 c1 c2 c3 : Value) (w : World) : (Instr.index 27 (.agg #[c0, c1, c2, c3]) (.int .i64 1)).run Tryz.prog w = .ok c1 w := by kernel_rfl
theorem ix4_2 (c0 c1 c2 c3 : Value) (w : World) : (Instr.index 27 (.agg #[c0, c1, c2, c3]) (.int .i64 2)).run Tryz.prog w = .ok c2 w := by kernel_rfl
theorem ix4_3 (c0 c1 c2 c3 : Value) (w : World) : (Instr.index 27 (.agg #[c0, c1, c2, c3]) (.int .i64 3)).run Tryz.prog w = .ok c3 w := by kernel_rfl
attribute [local go_sem] ix4_0 ix4_1 ix4_2 ix4_3

/-- the call returns the value v, and old memory is as it was -/
def Ret (v : Value) (w : World) (e : Ending) (w' : World) : Prop := e = .returned v ∧ Below w.heap.size w w'

theorem ret_bool {a b : Bool} (h : a = b) : Ending.returned (.bool a) = .returned (.bool b) := by rw [h]
theorem ret_int {k : IntKind} {a b : Int} (h : a = b) : Ending.returned (.int k a) = .returned (.int k b) := by rw [h]

set_option maxHeartbeats 2000000 in
theorem right_any (d c0 c1 c2 c3 : Int) (w : World) :
    Calls Tryz.prog 41 #[.agg #[.int .i64 d, .int .i64 c0, .int .i64 c1, .int .i64 c2, .int .i64 c3]] w (Ret (.bool (rightB d c0 c1 c2 c3)) w) := by
  by_cases hb : 1 ≤ d ∧ d ≤ 4
  · obtain ⟨hd, hd4⟩ := hb
    go_enter Tryz.func41, Tryz.ntmps41
    go_wp2
    refine wp_loop_rounds 5 ?_
    repeat any_goals (rw [rounds_succ]; go_wp2_with (go_at_call 74; refine (greatest_any _ _ _).mono ?_; rintro e w' ⟨rfl, rfl⟩))
    all_goals go_returns
    all_goals (refine ⟨ret_bool ?_, by go_grown⟩)
    all_goals (simp only [rightB, rightP]; first | (apply Eq.symm; apply decide_eq_true; omega) | (apply Eq.symm; apply decide_eq_false; omega))
  · go_enter Tryz.func41, Tryz.ntmps41
    have hr : rightB d c0 c1 c2 c3 = false := by simp only [rightB, rightP]; exact decide_eq_false (by omega)
    rw [hr]
    by_cases h1 : d < 1
    · go_wp2
      all_goals go_returns
      all_goals exact ⟨rfl, by go_grown⟩
    · have h4 : 4 < d := by omega
      go_wp2
      all_goals go_returns
      all_goals exact ⟨rfl, by go_grown⟩
end Go.Proofs.YtjaahmgokiobjaaGreat
namespace Go.Proofs.YtjaahmgokiobjaaGreat
open Go.RowKit
set_option linter.unusedVariables false
attribute [local go_sem] ix4_0 ix4_1 ix4_2 ix4_3

theorem bcell {W w1 : World} (hb : Below W.heap.size W w1) : (∀ b o, b < W.heap.size → w1.cell? ⟨b, o, none⟩ = W.cell? ⟨b, o, none⟩) ∧ (∀ b o, b < W.heap.size → w1.frozen? ⟨b, o, none⟩ = W.frozen? ⟨b, o, none⟩) :=
  ⟨fun b o h => hb.cell (p := ⟨b, o, none⟩) h, fun b o h => hb.frozen (p := ⟨b, o, none⟩) h⟩

def pairedB (d c0 c1 c2 c3 e x0 x1 x2 x3 : Int) : Bool := (d == e) && rightB d c0 c1 c2 c3 && rightB e x0 x1 x2 x3

theorem bcall {B : Nat} {a W w1 : World} (h : Below B a W) (hb : Below W.heap.size W w1) (hB : B ≤ W.heap.size) : Below B a w1 := h.trans (hb.mono hB)

set_option maxHeartbeats 1000000 in
theorem paired_any (d c0 c1 c2 c3 e x0 x1 x2 x3 : Int) (w : World) :
    Calls Tryz.prog 44 #[.agg #[.int .i64 d, .int .i64 c0, .int .i64 c1, .int .i64 c2, .int .i64 c3], .agg #[.int .i64 e, .int .i64 x0, .int .i64 x1, .int .i64 x2, .int .i64 x3]] w
      (Ret (.bool (pairedB d c0 c1 c2 c3 e x0 x1 x2 x3)) w) := by
  have hp : pairedB d c0 c1 c2 c3 e x0 x1 x2 x3 = ((d == e) && rightB d c0 c1 c2 c3 && rightB e x0 x1 x2 x3) := rfl
  rw [hp]; clear hp
  by_cases h : (d == e) = true
  · cases hr : rightB d c0 c1 c2 c3
    · go_enter Tryz.func44, Tryz.ntmps44
      go_wp2_with fail
      refine (right_any _ _ _ _ _ _).mono ?_
      rintro e w1 ⟨rfl, hb1⟩
      obtain ⟨hc1, hf1⟩ := bcell hb1
      have hB := bcall (B := w.heap.size) (a := w) (by go_grown) hb1 (by go_size)
      go_wp2
      go_returns
      exact ⟨by simp, by go_grown⟩
    · go_enter Tryz.func44, Tryz.ntmps44
      go_wp2_with fail
      refine (right_any _ _ _ _ _ _).mono ?_
      rintro e w1 ⟨rfl, hb1⟩
      obtain ⟨hc1, hf1⟩ := bcell hb1
      have hB := bcall (B := w.heap.size) (a := w) (by go_grown) hb1 (by go_size)
      go_wp2_with fail
      refine (right_any _ _ _ _ _ _).mono ?_
      rintro e w2 ⟨rfl, hb2⟩
      have hB2 := bcall hB hb2 hB.size
      go_wp2
      go_returns
      exact ⟨by simp [h], by go_grown⟩
  · have h' : (d == e) = false := by simpa using h
    rw [h']
    go_enter Tryz.func44, Tryz.ntmps44
    go_wp2
    go_returns
    exact ⟨by simp, by go_grown⟩
end Go.Proofs.YtjaahmgokiobjaaGreat
namespace Go.Proofs.YtjaahmgokiobjaaGreat
open Go.RowKit
set_option linter.unusedVariables false
attribute [local go_sem] ix4_0 ix4_1 ix4_2 ix4_3

def leB (d c0 c1 c2 c3 e x0 x1 x2 x3 : Int) : Bool := pairedB d c0 c1 c2 c3 e x0 x1 x2 x3 && decide (c0 ≤ x0 ∧ c1 ≤ x1 ∧ c2 ≤ x2 ∧ c3 ≤ x3)

set_option maxHeartbeats 2000000 in
theorem le_any (d c0 c1 c2 c3 e x0 x1 x2 x3 : Int) (w : World) :
    Calls Tryz.prog 20 #[.agg #[.int .i64 d, .int .i64 c0, .int .i64 c1, .int .i64 c2, .int .i64 c3], .agg #[.int .i64 e, .int .i64 x0, .int .i64 x1, .int .i64 x2, .int .i64 x3]] w
      (Ret (.bool (leB d c0 c1 c2 c3 e x0 x1 x2 x3)) w) := by
  cases hp : pairedB d c0 c1 c2 c3 e x0 x1 x2 x3
  · have hl : leB d c0 c1 c2 c3 e x0 x1 x2 x3 = false := by simp [leB, hp]
    rw [hl]; clear hl
    go_enter Tryz.func20, Tryz.ntmps20
    go_wp2_with fail
    refine (paired_any _ _ _ _ _ _ _ _ _ _ _).mono ?_
    rintro e w1 ⟨rfl, hb1⟩
    obtain ⟨hc1, hf1⟩ := bcell hb1
    have hB := bcall (B := w.heap.size) (a := w) (by go_grown) hb1 (by go_size)
    go_wp2
    go_returns
    exact ⟨rfl, by go_grown⟩
  · go_enter Tryz.func20, Tryz.ntmps20
    go_wp2_with fail
    refine (paired_any _ _ _ _ _ _ _ _ _ _ _).mono ?_
    rintro e w1 ⟨rfl, hb1⟩
    obtain ⟨hc1, hf1⟩ := bcell hb1
    have hB := bcall (B := w.heap.size) (a := w) (by go_grown) hb1 (by go_size)
    go_wp2
    go_rounds 5
    all_goals (try go_wp2)
    all_goals go_returns
    all_goals refine ⟨ret_bool ?_, by go_grown⟩
    all_goals (clear hc1 hf1; have HP := Lib.hid hp; clear hp; simp only [leB, HP.out, Bool.true_and]; first | (apply Eq.symm; apply decide_eq_true; omega) | (apply Eq.symm; apply decide_eq_false; omega))

/-- five cells of a block that can be written, and what they hold -/
structure Own5 (w : World) (b : Nat) (v0 v1 v2 v3 v4 : Value) : Prop where
  l0 : w.cell? ⟨b, 0, none⟩ = some v0
  l1 : w.cell? ⟨b, 1, none⟩ = some v1
  l2 : w.cell? ⟨b, 2, none⟩ = some v2
  l3 : w.cell? ⟨b, 3, none⟩ = some v3
  l4 : w.cell? ⟨b, 4, none⟩ = some v4
  q0 : w.frozen? ⟨b, 0, none⟩ = false
  q1 : w.frozen? ⟨b, 1, none⟩ = false
  q2 : w.frozen? ⟨b, 2, none⟩ = false
  q3 : w.frozen? ⟨b, 3, none⟩ = false
  q4 : w.frozen? ⟨b, 4, none⟩ = false
theorem Own5.below {W w1 : World} {B b : Nat} {v0 v1 v2 v3 v4 : Value} (h : Own5 W b v0 v1 v2 v3 v4) (hb : Below B W w1) (hl : b < B) : Own5 w1 b v0 v1 v2 v3 v4 :=
  ⟨(hb.cell (p := ⟨b, 0, none⟩) hl).trans h.l0, (hb.cell (p := ⟨b, 1, none⟩) hl).trans h.l1, (hb.cell (p := ⟨b, 2, none⟩) hl).trans h.l2, (hb.cell (p := ⟨b, 3, none⟩) hl).trans h.l3, (hb.cell (p := ⟨b, 4, none⟩) hl).trans h.l4,
   (hb.frozen (p := ⟨b, 0, none⟩) hl).trans h.q0, (hb.frozen (p := ⟨b, 1, none⟩) hl).trans h.q1, (hb.frozen (p := ⟨b, 2, none⟩) hl).trans h.q2, (hb.frozen (p := ⟨b, 3, none⟩) hl).trans h.q3, (hb.frozen (p := ⟨b, 4, none⟩) hl).trans h.q4⟩
theorem Own5.new (w : World) (v0 v1 v2 v3 v4 : Value) (t : TypeId) : Own5 (w.alloc (.cells #[v0, v1, v2, v3, v4] t)) w.heap.size v0 v1 v2 v3 v4 := by
  constructor <;> simp [go_sem]
theorem Own5.alloc {w : World} {b : Nat} {v0 v1 v2 v3 v4 : Value} (h : Own5 w b v0 v1 v2 v3 v4) (o : Obj) (hl : b < w.heap.size) : Own5 (w.alloc o) b v0 v1 v2 v3 v4 :=
  h.below ((Below.refl w.heap.size w).alloc (Nat.le_refl _) o) hl
/-- go on from a world of which only F is known -/
theorem gen_world {P : Program} {c : Code} {Q : Exit → Act → World → Prop} {a : Act} {W : World} (F : World → Prop) (hF : F W) (h : ∀ W2, F W2 → Code.wp P c Q a W2) : Code.wp P c Q a W := h W hF
theorem quiet_left {P : Program} {f : FuncId} {args : Array Value} {w : World} {n : Nat} {v : Value}
    (h : Calls P f args (w.drewN n) fun e w' => e = .returned v ∧ w.drewN n = w') : Calls P f args (w.drewN n) fun e w'' => e = .returned v ∧ ∃ m, w'' = w.drewN m :=
  h.mono fun _ _ ⟨he, hm⟩ => ⟨he, n, hm.symm⟩
theorem below_drewN {B : Nat} {a w : World} (h : Below B a w) (n : Nat) : Below B a (w.drewN n) := ⟨h.os, h.tape, h.output, h.size, h.block⟩
def imax (x y : Int) : Int := if y > x then y else x
def imin (x y : Int) : Int := if y < x then y else x
theorem run_imax (P : Program) (w : World) (ts : Array TypeId) (t : TypeId) (x y : Int) : (Builtin.max_ ts t #[.int .i64 x, .int .i64 y]).run P w = .ok (.int .i64 (imax x y)) w := run_max_int2 w ts t _ _ _ _
theorem run_imin (P : Program) (w : World) (ts : Array TypeId) (t : TypeId) (x y : Int) : (Builtin.min_ ts t #[.int .i64 x, .int .i64 y]).run P w = .ok (.int .i64 (imin x y)) w := run_min_int2 w ts t _ _ _ _
/-- a result's coordinate -/
def bc (ok join : Bool) (x y : Int) : Int := if ok then (if join then imax x y else imin x y) else 0
def gate (ok : Bool) (x : Int) : Int := if ok then x else 0
def bothV (join : Bool) (d c0 c1 c2 c3 e x0 x1 x2 x3 : Int) (ok : Bool) : Value :=
  .tuple #[.agg #[.int .i64 (gate ok d), .int .i64 (bc ok join c0 x0), .int .i64 (bc ok join c1 x1), .int .i64 (bc ok join c2 x2), .int .i64 (bc ok join c3 x3)], .bool ok]

end Go.Proofs.YtjaahmgokiobjaaGreat
namespace Go.Proofs.YtjaahmgokiobjaaGreat
open Go.RowKit
set_option linter.unusedVariables false
set_option linter.unusedSimpArgs false
attribute [local go_sem] ix4_0 ix4_1 ix4_2 ix4_3

/-- a step's numbers -/
structure HV where
  f : Int
  k : Int
  t : Int
  a0 : Int
  a1 : Int
  a2 : Int
  a3 : Int
  b0 : Int
  b1 : Int
  b2 : Int
  b3 : Int
abbrev HV.val (h : HV) : Value := .agg #[.int .i64 h.f, .int .i64 h.k, .int .i64 h.t, .int .i64 h.a0, .int .i64 h.a1, .int .i64 h.a2, .int .i64 h.a3, .int .i64 h.b0, .int .i64 h.b1, .int .i64 h.b2, .int .i64 h.b3]
/-- a timestamp's numbers -/
structure TV where
  d : Int
  c0 : Int
  c1 : Int
  c2 : Int
  c3 : Int
abbrev TV.val (t : TV) : Value := .agg #[.int .i64 t.d, .int .i64 t.c0, .int .i64 t.c1, .int .i64 t.c2, .int .i64 t.c3]
def HV.zero : HV := ⟨0, 0, 0, 0, 0, 0, 0, 0, 0, 0, 0⟩
def TV.zero : TV := ⟨0, 0, 0, 0, 0⟩

def fitsP (l0 l1 l2 l3 n : Int) : Prop := (0 ≤ l0 ∧ l0 ≤ 1048576 ∧ (0 < n ∨ l0 = 0)) ∧ (0 ≤ l1 ∧ l1 ≤ 1048576 ∧ (1 < n ∨ l1 = 0)) ∧ (0 ≤ l2 ∧ l2 ≤ 1048576 ∧ (2 < n ∨ l2 = 0)) ∧ (0 ≤ l3 ∧ l3 ≤ 1048576 ∧ (3 < n ∨ l3 = 0))
instance (l0 l1 l2 l3 n : Int) : Decidable (fitsP l0 l1 l2 l3 n) := by unfold fitsP; infer_instance
def fitsB (l0 l1 l2 l3 n : Int) : Bool := decide (fitsP l0 l1 l2 l3 n)

set_option maxHeartbeats 4000000 in
theorem fits_any (l0 l1 l2 l3 n : Int) (w : World) :
    Calls Tryz.prog 73 #[.agg #[.int .i64 l0, .int .i64 l1, .int .i64 l2, .int .i64 l3], .int .i64 n] w (Ret (.bool (fitsB l0 l1 l2 l3 n)) w) := by
  go_enter Tryz.func73, Tryz.ntmps73
  go_wp2
  go_rounds 5
  all_goals (try go_wp2)
  all_goals go_returns
  all_goals refine ⟨ret_bool ?_, by go_grown⟩
  all_goals (go_light; (try simp only [bne_eq_false_iff_eq, bne_iff_ne, ne_eq] at *); simp only [fitsB, fitsP]; first | (apply Eq.symm; apply decide_eq_true; omega) | (apply Eq.symm; apply decide_eq_false; omega))

theorem gives_any (h : HV) (h0 : 0 ≤ h.k) (h1 : h.k ≤ 4) (h2 : 0 ≤ h.t) (h3 : h.t ≤ 4) (w : World) :
    Calls Tryz.prog 42 #[h.val] w (Ret (.int .i64 (h.k + h.t)) w) := by
  go_enter Tryz.func42, Tryz.ntmps42
  go_wp2
  go_returns
  exact ⟨rfl, by go_grown⟩

def HV.add (h : HV) (i : Int) : Int := if i = 0 then h.a0 else if i = 1 then h.a1 else if i = 2 then h.a2 else h.a3
def HV.tl (h : HV) (i : Int) : Int := if i = 0 then h.b0 else if i = 1 then h.b1 else if i = 2 then h.b2 else h.b3
/-- what stands at a place of what a step gives -/
def HV.at (h : HV) (i : Int) : Int := if i < h.k then h.add i else h.tl (i - h.k)

set_option maxHeartbeats 4000000 in
theorem at_any (h : HV) (i : Int) (h0 : 0 ≤ h.k) (h1 : h.k ≤ 4) (h2 : 0 ≤ h.t) (h3 : h.k + h.t ≤ 4) (hi : 0 ≤ i) (hg : i < h.k + h.t) (w : World) :
    Calls Tryz.prog 43 #[h.val, .int .i64 i] w (Ret (.tuple #[.int .i64 (h.at i), .bool (decide (i < h.k))]) w) := by
  obtain ⟨f, k, t, a0, a1, a2, a3, b0, b1, b2, b3⟩ := h
  simp only at h0 h1 h2 h3 hg
  by_cases hk : i < k
  · have hi3 : i = 0 ∨ i = 1 ∨ i = 2 ∨ i = 3 := by omega
    rw [show decide (i < k) = true from decide_eq_true hk]
    rcases hi3 with rfl | rfl | rfl | rfl
    all_goals
      go_enter Tryz.func43, Tryz.ntmps43
      go_wp2
      go_returns
      exact ⟨by simp [HV.at, HV.add, hk], by go_grown⟩
  · have hk3 : (k = 0 ∨ k = 1 ∨ k = 2 ∨ k = 3) ∧ (i = 0 ∨ i = 1 ∨ i = 2 ∨ i = 3) := by omega
    rw [show decide (i < k) = false from decide_eq_false hk]
    obtain ⟨rfl | rfl | rfl | rfl, rfl | rfl | rfl | rfl⟩ := hk3
    all_goals first | (exfalso; omega) | skip
    all_goals
      go_enter Tryz.func43, Tryz.ntmps43
      go_wp2
      go_returns
      exact ⟨by simp [HV.at, HV.tl], by go_grown⟩
end Go.Proofs.YtjaahmgokiobjaaGreat
