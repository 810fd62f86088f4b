/- A contract for an iterator whose loops' records may be turned, too, and that tells its caller that what comes stands next in a given list; and the loop over such an iterator, outermost or within a round -/
import Derived.Test.YthhceggcdaljdaaGreatProg
import Derived.Test.YthhceggcdaljdaaGreatRows
import Derived.RangeFuncNested
import Derived.RangeFuncBound
import Derived.RangeFuncCalls
import Derived.RangeFuncLeaves
import Derived.Test.YthhceggcdaljdaaGreatK09
import Derived.Shelf.Abstract
import Derived.Shelf.RegionOpen
import Derived.WalkKit
import Derived.OwnWalkIn
import Derived.TacticsInMore
import Derived.LoopNIn
import Derived.LoopIn
namespace Go.Proofs.YthhceggcdaljdaaGreat
open Go.RowKit
set_option linter.unusedVariables false
set_option linter.unusedSimpArgs false
theorem grown_of_below {W W1 : World} (h : Below W.heap.size W W1) : W.grownBy W1 none := ⟨h.os, h.tape, h.output, h.size, fun k hk _ => h.block k hk⟩
section
variable {P : Program}

theorem yield_any {l : Nat} {args : Array Value} {W : World} {R : Ending → World → Prop} (h : YieldAt Fence.wide 0 P l args W R) : (∀ m, YieldAt Fence.wide m P l args W R) ∧ ∀ m j, YieldAt (Fence.wide.inRound j) m P l args W R := by
  obtain ⟨fn, tmps, assign, body, hy, hR⟩ := h
  exact ⟨fun m => ⟨fn, tmps, assign, body, hy, hR.1, fun c cs _ => hR.2 c cs (room_wide _)⟩, fun m j => ⟨fn, tmps, assign, body, hy, hR.1, fun c cs _ => hR.2 c cs (room_wide _)⟩⟩
theorem yield_wide {n l : Nat} {args : Array Value} {W : World} {R : Ending → World → Prop} (h : YieldAt Fence.wide n P l args W R) : YieldAt Fence.wide 0 P l args W R := by
  obtain ⟨fn, tmps, assign, body, hy, hR⟩ := h
  exact ⟨fn, tmps, assign, body, hy, hR.1, fun c cs _ => hR.2 c cs (room_wide _)⟩

theorem kf_wide {B C : Nat} {W W' : World} (h : KeepsFrom B W W') (hBC : B ≤ C) : KeepsFrom C W W' := ⟨h.size, fun k o hk => h.same k o (Nat.le_trans hBC hk)⟩
theorem kf_put (W : World) (l : Nat) (o : Obj) {B : Nat} (h : l < B) : KeepsFrom B W (W.putObj l o) := ⟨by simp, fun k o' hk hko _ => (World.putObj_heap_other (by omega)).trans hko⟩
/-- all of ys come, in their order, each at a round that keeps Kp; or as many as a round lets -/
def Iter {α : Type} (P : Program) (g : Nat) (lb : Array Value) (encs : α → Array Value) (Kp : World → World → Prop) (ys : List α) (w : World) : Prop :=
  ∀ (l : Nat) (J Jx : List α → World → Prop) (W : World), Below w.heap.size w W → OwnFrom W.heap.size J → OwnFrom W.heap.size Jx →
    (∀ pre x W1, (pre ++ [x]) <+: ys → J pre W1 → YieldAt Fence.wide 0 P l (encs x) W1 fun e W' =>
      (e = .returned (.bool true) ∧ J (pre ++ [x]) W' ∧ Kp W1 W' ∧ KeepsFrom W.heap.size W1 W') ∨ (e = .returned (.bool false) ∧ Jx (pre ++ [x]) W' ∧ KeepsFrom W.heap.size W1 W')) →
    J [] W →
    Calls P g (#[.func (.yield l) #[] #[]] ++ lb) W fun e W' => (∃ v, e = .returned v) ∧ (J ys W' ∨ ∃ pre, pre <+: ys ∧ Jx pre W')

/-- the same where what comes is told by f of what the round is handed, and Ok of that holds then -/
def IterV {α β : Type} (P : Program) (g : Nat) (lb : Array Value) (encs : α → Array Value) (f : α → β) (Ok : α → World → Prop) (Kp : World → World → Prop) (ys : List β) (w : World) : Prop :=
  ∀ (l : Nat) (J Jx : List β → World → Prop) (W : World), Below w.heap.size w W → OwnFrom W.heap.size J → OwnFrom W.heap.size Jx →
    (∀ pre x W1, (pre ++ [f x]) <+: ys → Ok x W1 → J pre W1 → YieldAt Fence.wide 0 P l (encs x) W1 fun e W' =>
      (e = .returned (.bool true) ∧ J (pre ++ [f x]) W' ∧ Kp W1 W' ∧ KeepsFrom W.heap.size W1 W') ∨ (e = .returned (.bool false) ∧ Jx (pre ++ [f x]) W' ∧ KeepsFrom W.heap.size W1 W')) →
    J [] W →
    Calls P g (#[.func (.yield l) #[] #[]] ++ lb) W fun e W' => (∃ v, e = .returned v) ∧ (J ys W' ∨ ∃ pre, pre <+: ys ∧ Jx pre W')
theorem Iter.v {α : Type} {g : Nat} {lb : Array Value} {encs : α → Array Value} {Kp : World → World → Prop} {ys : List α} {w : World} (h : Iter P g lb encs Kp ys w) : IterV P g lb encs (fun x => x) (fun _ _ => True) Kp ys w :=
  fun l J Jx W hW hJ hJx hY hj => h l J Jx W hW hJ hJx (fun pre x W1 hp hj => hY pre x W1 hp trivial hj) hj

/-- The loop, its record laid as block l by whichever of the two ways: X is what is to be known of the block for deferred calls. -/
theorem iter_core {α β : Type} {F : Fence} {n : Nat} {g : Operand} {ps : Array Tmp} {assign body : Code} {Q : Exit → Act → World → Prop} {a : Act} {w : World}
    (hall : ∀ f, F.fn f) (h1 : 1 ≤ n) (hfen : ∀ {l : Nat} {f : FuncId} {tmps : Array Value} {W : World} {R : Ending → World → Prop}, RoundIn F 3 P l f tmps assign body W R → RoundIn Fence.wide 3 P l f tmps assign body W R)
    (hC : ∀ {f : FuncId} {args : Array Value} {W : World} {R : Ending → World → Prop}, Calls P f args W R → CallsIn F (n - 1) P f args W R)
    {gf : Nat} {lb : Array Value} (hg : a.eval g = .func (.func gf) #[] lb) (eg : ∀ args w, (callFunc gf args).run P w = .ok (.enter gf args) w)
    {encs : α → Array Value} {Kp : World → World → Prop} {f : α → β} {Ok : α → World → Prop} {ys : List β} {w0 : World} (hseq : IterV P gf lb encs f Ok Kp ys w0) (hOk : ∀ x, OwnFrom w.heap.size (fun (_ : Unit) W => Ok x W)) (hb0 : Below w0.heap.size w0 w) (hps : ∀ x, (encs x).size = ps.size)
    (hKt : ∀ {A B C : World}, Kp A B → Kp B C → Kp A C) (l dn : Nat) (hKb : ∀ (W : World) (o o' : Obj), W.heap[l]? = some o → o.isCells = false → Kp W (W.putObj l o'))
    (mark : List Deferred) (X : World → Prop) (hl : w.heap.size ≤ l)
    (hlay : ∀ fn, ∃ W1, (Instr.enterLoop fn a.tmps ps assign body F.round).run P w = .ok (l, mark) W1 ∧ Below w.heap.size w W1 ∧ W1.heap[l]? = some (.loop { state := .ready, pending := none, fn, tmps := a.tmps, params := ps, assign, body, defers := dn }) ∧ X W1 ∧
      (∀ A B : World, X A → (∀ (k : Nat) (o : Obj), k < W1.heap.size → k ≠ l → A.heap[k]? = some o → o.isCells = false → w.heap.size ≤ k → B.heap[k]? = some o) → X B))
    (I : List β → World → Prop) (Ix : Code → List β → World → Prop) (hI : OwnFrom w.heap.size I) (hIx : ∀ c, OwnFrom w.heap.size (Ix c)) (h0 : I [] w) (Ax : α → Act → World → Prop) (hAx : ∀ x a', OwnFrom w.heap.size (fun (_ : Unit) W => Ax x a' W))
    (hassign : ∀ (pre : List β) (x : α) (W : World) (K : Act → World → Prop), I pre W → Ok x W → (∀ a' W', KeepsFrom w.heap.size W W' → Kp W W' → I pre W' → Ok x W' → Ax x a' W' → K a' W') →
      assign.wpIn (F.inRound l) 3 P (Exit.then K (fun _ _ _ => False)) { tmps := (ps.zip (encs x)).foldl (fun t (p, v) => t.setIfInBounds p v) a.tmps, defers := [] } W)
    (hbody : ∀ (pre : List β) (x : α) (a' : Act) (W : World), (pre ++ [f x]) <+: ys → Ok x W → (∃ r, W.heap[l]? = some (.loop r)) → I pre W → Ax x a' W → body.wpIn (F.inRound l) 3 P (ownPostG w.heap.size Kp I Ix (pre ++ [f x]) W) a' W)
    (hdone : ∀ (W : World), X W → I ys W → Q .normal { a with defers := mark ++ a.defers } W)
    (hstop : ∀ (c : Code) (pre : List β) (W : World), X W → pre <+: ys → Ix c pre W → c.wpIn F n P Q { a with defers := mark ++ a.defers } W) :
    (Code.rangeFunc g ps assign body).wpIn F n P Q a w := by
  refine wpIn_rangeFunc ?_
  intro fn hfn
  obtain ⟨W1, hrun, hB1, hL1, hX1, hXk⟩ := hlay fn
  have hlt1 : l < W1.heap.size := (Array.getElem?_eq_some_iff.1 hL1).1
  obtain ⟨rec, hrec⟩ : ∃ rec : LoopState → Option Code → Loop, rec = fun st pe => { state := st, pending := pe, fn, tmps := a.tmps, params := ps, assign, body, defers := dn } := ⟨_, rfl⟩
  have hL1' : W1.heap[l]? = some (.loop (rec .ready none)) := by rw [hrec]; exact hL1
  -- a turn of what is no cells, beyond what lay when the iterator was called
  have hXo : ∀ (A B : World) (row : Option Nat), X A → A.grownBy B row → (∀ r, row = some r → W1.heap.size ≤ r ∧ ∃ o : Obj, A.heap[r]? = some o ∧ o.isCells = false) → X B := fun A B row hA hg hr =>
    hXk A B hA fun k o hk hkl ho hc hw => (hg.block k (Array.getElem?_eq_some_iff.1 ho).1 (fun e => by have := (hr k e.symm).1; omega)).trans ho
  have hXp : ∀ (A : World) (o' : Obj), X A → X (A.putObj l o') := fun A o' hA => hXk A _ hA fun k o hk hkl ho hc hw => (World.putObj_heap_other hkl).trans ho
  have hXf : ∀ (A B : World), X A → KeepsFrom w.heap.size A B → X B := fun A B hA hkf => hXk A B hA fun k o hk hkl ho hc hw => hkf.same k o hw ho hc
  have hLo : ∀ (A B : World) (row : Option Nat) (o : Obj), A.heap[l]? = some o → A.grownBy B row → (∀ r, row = some r → W1.heap.size ≤ r ∧ ∃ o : Obj, A.heap[r]? = some o ∧ o.isCells = false) → B.heap[l]? = some o := fun A B row o hA hg hr =>
    (hg.block l (Array.getElem?_eq_some_iff.1 hA).1 (fun e => by have := (hr l e.symm).1; omega)).trans hA
  have hIo : ∀ {s : List β} {A B : World} {row : Option Nat}, I s A → A.grownBy B row → (∀ r, row = some r → W1.heap.size ≤ r ∧ ∃ o : Obj, A.heap[r]? = some o ∧ o.isCells = false) → I s B := fun hs hg hr =>
    hI _ _ _ _ hs hg fun r e => ⟨Nat.le_trans hB1.size (hr r e).1, (hr r e).2⟩
  have hIxo : ∀ {c : Code} {s : List β} {A B : World} {row : Option Nat}, Ix c s A → A.grownBy B row → (∀ r, row = some r → W1.heap.size ≤ r ∧ ∃ o : Obj, A.heap[r]? = some o ∧ o.isCells = false) → Ix c s B := fun hs hg hr =>
    hIx _ _ _ _ _ hs hg fun r e => ⟨Nat.le_trans hB1.size (hr r e).1, (hr r e).2⟩
  refine ⟨l, mark, W1, { target := .fn (.func gf) lb, args := #[.func (.yield l) #[] #[]] }, W1, gf, #[.func (.yield l) #[] #[]] ++ lb, W1, hrun, ?_, fun f' _ => hall f', ?_, fun _ => h1, hC ?_⟩
  · simp only [resolve, hg]
    simp [go_sem]
  · simp [invoke, go_sem, eg]
  have hI1 : I [] W1 := hI _ _ _ none h0 (grown_of_below hB1) (fun r e => by cases e)
  refine (hseq l (fun pre W => I pre W ∧ W.heap[l]? = some (.loop (rec .ready none)) ∧ X W) (fun pre W => ∃ c, Ix c pre W ∧ W.heap[l]? = some (.loop (rec .done (some c))) ∧ X W) W1 (hb0.trans (hB1.mono hb0.size))
    (fun s A B row hs hg hr => ⟨hIo hs.1 hg hr, hLo A B row _ hs.2.1 hg hr, hXo A B row hs.2.2 hg hr⟩)
    (fun s A B row hs hg hr => by obtain ⟨c, h1, h2, h3⟩ := hs; exact ⟨c, hIxo h1 hg hr, hLo A B row _ h2 hg hr, hXo A B row h3 hg hr⟩) ?_ ⟨hI1, hL1', hX1⟩).mono ?_
  · rintro pre x W hpre hok ⟨hi, hlw, hx⟩
    have hlt : l < W.heap.size := (Array.getElem?_eq_some_iff.1 hlw).1
    have hy := run_yield (P := P) (args := encs x) hlw (by rw [hrec]; exact hps x)
    rw [hrec] at hy
    refine yield_wide (n := 3) ⟨fn, _, assign, body, hy, hfen (roundIn_of_wpIn hfn (hassign pre x W _ hi hok fun a' Wa hkfa hkpa hia hoka haxa => ?_))⟩
    clear hy
    have hla := hkfa.same l _ hl hlw rfl
    have hxa := hXf _ _ hx hkfa
    have hlta : l < Wa.heap.size := (Array.getElem?_eq_some_iff.1 hla).1
    refine ⟨_, run_beginRound hla (by rw [hrec]), ?_⟩
    have hw2 := hKt hkpa (hKb Wa _ (.loop { rec .ready none with state := .busy }) hla rfl)
    have hi2 := hI.putObj (.loop { rec .ready none with state := .busy }) hia hl hla rfl
    have hl2 : (Wa.putObj l (.loop { rec .ready none with state := .busy })).heap[l]? = some (.loop { rec .ready none with state := .busy }) := World.putObj_heap_same hlta
    have hok2 := (hOk x).putObj (s := ()) (.loop { rec .ready none with state := .busy }) hoka hl hla rfl
    have hax2 := (hAx x a').putObj (s := ()) (.loop { rec .ready none with state := .busy }) haxa hl hla rfl
    have hkf2 : KeepsFrom W1.heap.size W (Wa.putObj l (.loop { rec .ready none with state := .busy })) := (kf_wide hkfa hB1.size).trans (kf_put _ _ _ hlt1)
    have hx2 := hXp Wa (.loop { rec .ready none with state := .busy }) hxa
    generalize Wa.putObj l (.loop { rec .ready none with state := .busy }) = W2 at *
    refine wpIn_mono (hbody pre x a' W2 hpre hok2 ⟨_, hl2⟩ hi2 hax2) ?_
    have leave : ∀ (jump : Option Code) (W3 : World), KeepsFrom w.heap.size W2 W3 → (Instr.endRound l jump).run P W3 = .ok (.bool jump.isNone) (W3.putObj l (.loop (rec (if jump.isNone then .ready else .done) jump))) ∧
        W3.heap[l]? = some (.loop { rec .ready none with state := .busy }) ∧ (W3.putObj l (.loop (rec (if jump.isNone then .ready else .done) jump))).heap[l]? = some (.loop (rec (if jump.isNone then .ready else .done) jump)) ∧
        X (W3.putObj l (.loop (rec (if jump.isNone then .ready else .done) jump))) ∧ KeepsFrom W1.heap.size W (W3.putObj l (.loop (rec (if jump.isNone then .ready else .done) jump))) := fun jump W3 hk => by
      have h3 := hk.same l _ hl hl2 rfl
      have he := run_endRound (P := P) jump h3
      rw [hrec] at he h3 ⊢
      exact ⟨he, h3, World.putObj_heap_same (Array.getElem?_eq_some_iff.1 h3).1, hXp _ _ (hXf _ _ hx2 hk), (hkf2.trans (kf_wide hk hB1.size)).trans (kf_put _ _ _ hlt1)⟩
    rintro e a3 W3 hp
    cases e with
    | normal =>
      obtain ⟨hk, hkp, hi3⟩ := hp
      obtain ⟨hr, h3, h4, hx4, hf4⟩ := leave none W3 hk
      exact ⟨_, _, hr, .inl ⟨rfl, ⟨hI.putObj _ hi3 hl h3 rfl, h4, hx4⟩, hKt (hKt hw2 hkp) (hKb _ _ _ h3 rfl), hf4⟩⟩
    | ret =>
      obtain ⟨hr, h3, h4, hx4, hf4⟩ := leave (some .ret) W3 hp.1
      exact ⟨_, _, hr, .inr ⟨rfl, ⟨.ret, (hIx _).putObj _ hp.2 hl h3 rfl, h4, hx4⟩, hf4⟩⟩
    | exit id =>
      obtain ⟨hr, h3, h4, hx4, hf4⟩ := leave (some (.exit id)) W3 hp.1
      exact ⟨_, _, hr, .inr ⟨rfl, ⟨.exit id, (hIx _).putObj _ hp.2 hl h3 rfl, h4, hx4⟩, hf4⟩⟩
    | goto t =>
      obtain ⟨hr, h3, h4, hx4, hf4⟩ := leave (some (.goto t)) W3 hp.1
      exact ⟨_, _, hr, .inr ⟨rfl, ⟨.goto t, (hIx _).putObj _ hp.2 hl h3 rfl, h4, hx4⟩, hf4⟩⟩
    | panic ch => exact hp.elim
    | outgrown => exact hp.elim
  · rintro e W2 ⟨⟨v, rfl⟩, (⟨hi, hlw, hx⟩ | ⟨pre, hpre, c, hi, hlw, hx⟩)⟩
    · exact ⟨none, _, by have he := run_endLoop (P := P) hlw (by rw [hrec]; simp); rw [hrec] at he; exact he, hdone _ (hXp _ _ hx) (hI.putObj _ hi hl hlw rfl)⟩
    · exact ⟨some c, _, by have he := run_endLoop (P := P) hlw (by rw [hrec]; simp); rw [hrec] at he; exact he, hstop c pre _ (hXp _ _ hx) hpre ((hIx c).putObj _ hi hl hlw rfl)⟩

/-- The outermost loop of a function that is called anywhere. -/
theorem iter_outer {α β : Type} {n : Nat} {g : Operand} {ps : Array Tmp} {assign body : Code} {Q : Exit → Act → World → Prop} {a : Act} {w : World} (h1 : 1 ≤ n)
    {gf : Nat} {lb : Array Value} (hg : a.eval g = .func (.func gf) #[] lb) (eg : ∀ args w, (callFunc gf args).run P w = .ok (.enter gf args) w)
    {encs : α → Array Value} {Kp : World → World → Prop} {f : α → β} {Ok : α → World → Prop} {ys : List β} {w0 : World} (hseq : IterV P gf lb encs f Ok Kp ys w0) (hOk : ∀ x, OwnFrom w.heap.size (fun (_ : Unit) W => Ok x W)) (hb0 : Below w0.heap.size w0 w) (hps : ∀ x, (encs x).size = ps.size)
    (hKt : ∀ {A B C : World}, Kp A B → Kp B C → Kp A C) (hKb : ∀ (W : World) (o o' : Obj), W.heap[w.heap.size + 1]? = some o → o.isCells = false → Kp W (W.putObj (w.heap.size + 1) o'))
    (I : List β → World → Prop) (Ix : Code → List β → World → Prop) (hI : OwnFrom w.heap.size I) (hIx : ∀ c, OwnFrom w.heap.size (Ix c)) (h0 : I [] w) (Ax : α → Act → World → Prop) (hAx : ∀ x a', OwnFrom w.heap.size (fun (_ : Unit) W => Ax x a' W))
    (hassign : ∀ (l : Nat) (pre : List β) (x : α) (W : World) (K : Act → World → Prop), I pre W → Ok x W → (∀ a' W', KeepsFrom w.heap.size W W' → Kp W W' → I pre W' → Ok x W' → Ax x a' W' → K a' W') →
      assign.wpIn (Fence.wide.inRound l) 3 P (Exit.then K (fun _ _ _ => False)) { tmps := (ps.zip (encs x)).foldl (fun t (p, v) => t.setIfInBounds p v) a.tmps, defers := [] } W)
    (hbody : ∀ (l : Nat) (pre : List β) (x : α) (a' : Act) (W : World), w.heap.size ≤ l → (pre ++ [f x]) <+: ys → Ok x W → (∃ r, W.heap[l]? = some (.loop r)) → I pre W → Ax x a' W → body.wpIn (Fence.wide.inRound l) 3 P (ownPostG w.heap.size Kp I Ix (pre ++ [f x]) W) a' W)
    (hdone : ∀ (D : Nat) (W : World), D = w.heap.size → W.heap[D]? = some (.deferred (some [])) → I ys W → Q .normal { a with defers := { target := .collected D, args := #[] } :: a.defers } W)
    (hstop : ∀ (D : Nat) (c : Code) (pre : List β) (W : World), D = w.heap.size → W.heap[D]? = some (.deferred (some [])) → pre <+: ys → Ix c pre W → c.wpIn Fence.wide n P Q { a with defers := { target := .collected D, args := #[] } :: a.defers } W) :
    (Code.rangeFunc g ps assign body).wpIn Fence.wide n P Q a w :=
  iter_core (fun _ => trivial) h1 (fun h => h) (fun h => callsIn_wide.2 h) hg eg hseq hOk hb0 hps hKt (w.heap.size + 1) w.heap.size hKb [{ target := .collected w.heap.size, args := #[] }] (fun W => W.heap[w.heap.size]? = some (.deferred (some []))) (by omega)
    (fun fn => ⟨_, run_enterLoop_outer fn _ _ _ _, ((Below.refl _ w).alloc (Nat.le_refl _) _).alloc (by simp) _, by have := World.alloc_heap_new (w.alloc (.deferred (some []))) (.loop { state := .ready, pending := none, fn, tmps := a.tmps, params := ps, assign, body, defers := w.heap.size }); rwa [World.size_alloc] at this,
      (Below.heap_alloc _ _ _ (by simp)).trans (World.alloc_heap_new w _), fun A B hA hk => hk _ _ (by simp; omega) (by omega) hA rfl (Nat.le_refl _)⟩)
    I Ix hI hIx h0 Ax hAx (hassign _) (fun pre x a' W => hbody _ pre x a' W (by omega)) (fun W hX hi => hdone _ W rfl hX hi) (fun c pre W hX => hstop _ c pre W rfl hX)

/-- The loop within a round of loop l₀. -/
theorem iter_inner {α β : Type} {n : Nat} {g : Operand} {ps : Array Tmp} {assign body : Code} {Q : Exit → Act → World → Prop} {a : Act} {w : World} {l₀ : Nat} (hl₀ : ∃ r₀, w.heap[l₀]? = some (.loop r₀)) (h1 : 1 ≤ n)
    {gf : Nat} {lb : Array Value} (hg : a.eval g = .func (.func gf) #[] lb) (eg : ∀ args w, (callFunc gf args).run P w = .ok (.enter gf args) w)
    {encs : α → Array Value} {Kp : World → World → Prop} {f : α → β} {Ok : α → World → Prop} {ys : List β} {w0 : World} (hseq : IterV P gf lb encs f Ok Kp ys w0) (hOk : ∀ x, OwnFrom w.heap.size (fun (_ : Unit) W => Ok x W)) (hb0 : Below w0.heap.size w0 w) (hps : ∀ x, (encs x).size = ps.size)
    (hKt : ∀ {A B C : World}, Kp A B → Kp B C → Kp A C) (hKb : ∀ (W : World) (o o' : Obj), W.heap[w.heap.size]? = some o → o.isCells = false → Kp W (W.putObj w.heap.size o'))
    (I : List β → World → Prop) (Ix : Code → List β → World → Prop) (hI : OwnFrom w.heap.size I) (hIx : ∀ c, OwnFrom w.heap.size (Ix c)) (h0 : I [] w) (Ax : α → Act → World → Prop) (hAx : ∀ x a', OwnFrom w.heap.size (fun (_ : Unit) W => Ax x a' W))
    (hassign : ∀ (l : Nat) (pre : List β) (x : α) (W : World) (K : Act → World → Prop), I pre W → Ok x W → (∀ a' W', KeepsFrom w.heap.size W W' → Kp W W' → I pre W' → Ok x W' → Ax x a' W' → K a' W') →
      assign.wpIn (Fence.wide.inRound l) 3 P (Exit.then K (fun _ _ _ => False)) { tmps := (ps.zip (encs x)).foldl (fun t (p, v) => t.setIfInBounds p v) a.tmps, defers := [] } W)
    (hbody : ∀ (l : Nat) (pre : List β) (x : α) (a' : Act) (W : World), w.heap.size ≤ l → (pre ++ [f x]) <+: ys → Ok x W → (∃ r, W.heap[l]? = some (.loop r)) → I pre W → Ax x a' W → body.wpIn (Fence.wide.inRound l) 3 P (ownPostG w.heap.size Kp I Ix (pre ++ [f x]) W) a' W)
    (hdone : ∀ (W : World), I ys W → Q .normal a W)
    (hstop : ∀ (c : Code) (pre : List β) (W : World), pre <+: ys → Ix c pre W → c.wpIn (Fence.wide.inRound l₀) n P Q a W) :
    (Code.rangeFunc g ps assign body).wpIn (Fence.wide.inRound l₀) n P Q a w := by
  obtain ⟨r₀, hl₀⟩ := hl₀
  refine iter_core (fun _ => trivial) h1 (fun h => h) (fun h => CallsIn.inRound l₀ (callsIn_wide.2 h)) hg eg hseq hOk hb0 hps hKt w.heap.size r₀.defers hKb [] (fun _ => True) (Nat.le_refl _)
    (fun fn => ⟨_, run_enterLoop_inner hl₀ fn _ _ _ _, (Below.refl _ w).alloc (Nat.le_refl _) _, World.alloc_heap_new w _, trivial, fun _ _ _ _ => trivial⟩)
    I Ix hI hIx h0 Ax hAx (hassign _) (fun pre x a' W => hbody _ pre x a' W (Nat.le_refl _)) (fun W _ hi => hdone W hi) (fun c pre W _ => hstop c pre W)
end
end Go.Proofs.YthhceggcdaljdaaGreat
/- what a round of Apply's loop keeps: all cells but two boxes and the row that the second one holds -/
namespace Go.Proofs.YthhceggcdaljdaaGreat
open Go.RowKit Go.Shelf
set_option linter.unusedVariables false
set_option linter.unusedSimpArgs false

def encO (x : RV × Int) : Array Value := #[x.1.val, .int .i64 x.2]
/-- the block of the row that a box holds -/
def rowPtr (w : World) (Bl : Nat) : Option Nat := match w.cell? ⟨Bl, 0, none⟩ with
  | some v => v.ownBlock
  | none => none
theorem rowPtr_eq {w w' : World} {Bl : Nat} (h : w'.heap[Bl]? = w.heap[Bl]?) : rowPtr w' Bl = rowPtr w Bl := by
  unfold rowPtr World.cell?
  simp only [h]
/-- a world in which all cells lie as they lay, but those of box Br, of box Bl and of the row that Bl holds; and Bl holds the same row or a new one -/
structure KpL (Br Bl : Nat) (A B : World) : Prop where
  os : B.os = A.os
  tape : B.tape = A.tape
  output : B.output = A.output
  size : A.heap.size ≤ B.heap.size
  same : ∀ (j : Nat) (o : Obj), A.heap[j]? = some o → o.isCells = true → j ≠ Br → j ≠ Bl → rowPtr A Bl ≠ some j → B.heap[j]? = some o
  ptr : rowPtr B Bl = rowPtr A Bl ∨ ∀ g, rowPtr B Bl = some g → A.heap.size ≤ g
  lt : (∀ g, rowPtr A Bl = some g → g < A.heap.size) → ∀ g, rowPtr B Bl = some g → g < B.heap.size
theorem KpL.refl (Br Bl : Nat) (A : World) : KpL Br Bl A A := ⟨rfl, rfl, rfl, Nat.le_refl _, fun _ _ h _ _ _ _ => h, .inl rfl, fun h => h⟩
theorem KpL.trans {Br Bl : Nat} {A B C : World} (h : KpL Br Bl A B) (k : KpL Br Bl B C) : KpL Br Bl A C := by
  refine ⟨k.os.trans h.os, k.tape.trans h.tape, k.output.trans h.output, Nat.le_trans h.size k.size, fun j o hj hc h1 h2 h3 => ?_, ?_, fun q => k.lt (h.lt q)⟩
  · refine k.same j o (h.same j o hj hc h1 h2 h3) hc h1 h2 fun e => ?_
    have hlt : j < A.heap.size := (Array.getElem?_eq_some_iff.1 hj).1
    rcases h.ptr with q | q
    · exact h3 (q ▸ e)
    · have := q j e; omega
  · rcases k.ptr with q | q
    · rcases h.ptr with r | r
      · exact .inl (q.trans r)
      · exact .inr fun g hg => r g (q ▸ hg)
    · exact .inr fun g hg => Nat.le_trans h.size (q g hg)
/-- what is no cells may be turned -/
theorem KpL.putObj {Br Bl : Nat} (W : World) (l : Nat) (o o' : Obj) (h : W.heap[l]? = some o) (ho : o.isCells = false) (hl : l ≠ Bl) : KpL Br Bl W (W.putObj l o') := by
  have hg := grownBy_putObj' W l o'
  have hp : rowPtr (W.putObj l o') Bl = rowPtr W Bl := by
    by_cases hB : Bl < W.heap.size
    · exact rowPtr_eq (hg.block Bl hB (fun e => hl (by cases e; rfl)))
    · have h1 : W.heap[Bl]? = none := by simp; omega
      have h2 : (W.putObj l o').heap[Bl]? = none := by
        have : (W.putObj l o').heap.size = W.heap.size := by simp [World.putObj]
        simp; omega
      exact rowPtr_eq (h2.trans h1.symm)
  refine ⟨hg.os, hg.tape, hg.output, hg.size, fun j ob hj hc _ _ _ => ?_, .inl hp, fun q g e => ?_⟩
  · refine (hg.block j (Array.getElem?_eq_some_iff.1 hj).1 fun e => ?_).trans hj
    cases e
    rw [h] at hj
    cases hj
    rw [ho] at hc
    cases hc
  · rw [hp] at e
    exact Nat.lt_of_lt_of_le (q g e) hg.size
/-- new blocks: what lies below stays -/
theorem KpL.of_below {Br Bl : Nat} {A B : World} (h : Below A.heap.size A B) (hl : Bl < A.heap.size) : KpL Br Bl A B := by
  have hp : rowPtr B Bl = rowPtr A Bl := rowPtr_eq (h.block Bl hl)
  refine ⟨h.os, h.tape, h.output, h.size, fun j o hj _ _ _ _ => (h.block j (Array.getElem?_eq_some_iff.1 hj).1).trans hj, .inl hp, fun q g e => ?_⟩
  rw [hp] at e
  exact Nat.lt_of_lt_of_le (q g e) h.size
/-- a block of cells of one's own is kept, where it is none of the three -/
theorem KpL.keep {Br Bl : Nat} {A B : World} (h : KpL Br Bl A B) {k : Nat} {c : Array Value} {t : TypeId} (hk : A.heap[k]? = some (.cells c t (0, 0))) (h1 : k ≠ Br) (h2 : k ≠ Bl) (h3 : rowPtr A Bl ≠ some k) : B.heap[k]? = some (.cells c t (0, 0)) :=
  h.same k _ hk rfl h1 h2 h3
/-- and it is none of the three behind the round, too -/
theorem KpL.apart {Br Bl : Nat} {A B : World} (h : KpL Br Bl A B) {k : Nat} (hk : k < A.heap.size) (h3 : rowPtr A Bl ≠ some k) : rowPtr B Bl ≠ some k := fun e => by
  rcases h.ptr with q | q
  · exact h3 (q ▸ e)
  · have := q k e; omega
end Go.Proofs.YthhceggcdaljdaaGreat
/- what comes of an operator that takes its records one by one, as an iterator: ofEach's closure -/
namespace Go.Proofs.YthhceggcdaljdaaGreat
open Go.RowKit Go.Shelf
attribute [local go_sem] Oper.semAt_some
set_option linter.unusedVariables false
set_option linter.unusedSimpArgs false

def pairP (n : Int) (L : List RV) : List (RV × Int) := L.map fun r => (r, n)
def oftenO (k : Int) (c : IV) : Int := if k = 8 then 1 else c.n
def eachP (k arg : Int) (p : List NV) (b : List IV) : List (RV × Int) := b.flatMap fun c => pairP (oftenO k c) (oneO k arg p c.t)
theorem KpL.own {Br Bl B0 : Nat} {A B : World} (h : KpL Br Bl A B) {v : Value} {L : List RV} (ho : RR.Own B0 A v L) (ha : ∀ g, v.ownBlock = some g → g ≠ Br ∧ g ≠ Bl ∧ rowPtr A Bl ≠ some g) : RR.Own B0 B v L := by
  obtain ⟨h1, ⟨rfl, h0⟩ | ⟨g, cap, cur, rfl, hB, hg, rest⟩⟩ := ho
  · exact ⟨h1, .inl ⟨rfl, h0⟩⟩
  · have q := ha g rfl
    exact ⟨h1, .inr ⟨g, cap, cur, rfl, hB, h.keep hg q.1 q.2.1 q.2.2, rest⟩⟩
theorem eachP_succ {k arg : Int} {p : List NV} {xs : List IV} {j : Nat} (hj : j < xs.length) : eachP k arg p (xs.take (j + 1)) = eachP k arg p (xs.take j) ++ pairP (oftenO k xs[j]!) (oneO k arg p xs[j]!.t) := by
  rw [take_getA xs j hj]
  simp [eachP]
theorem pairP_succ {n : Int} {L : List RV} {m : Nat} (hm : m < L.length) : pairP n (L.take (m + 1)) = pairP n (L.take m) ++ [(L[m]!, n)] := by
  rw [take_getA L m hm]
  simp [pairP]
theorem eachP_prefix {k arg : Int} {p : List NV} {xs : List IV} {j m : Nat} (hj : j < xs.length) : (eachP k arg p (xs.take j) ++ pairP (oftenO k xs[j]!) ((oneO k arg p xs[j]!.t).take m)) <+: eachP k arg p xs := by
  have h1 : eachP k arg p xs = eachP k arg p (xs.take (j + 1)) ++ eachP k arg p (xs.drop (j + 1)) := by
    unfold eachP
    rw [← List.flatMap_append, List.take_append_drop]
  rw [h1, eachP_succ hj]
  have h2 : pairP (oftenO k xs[j]!) (oneO k arg p xs[j]!.t) = pairP (oftenO k xs[j]!) ((oneO k arg p xs[j]!.t).take m) ++ pairP (oftenO k xs[j]!) ((oneO k arg p xs[j]!.t).drop m) := by
    unfold pairP
    rw [← List.map_append, List.take_append_drop]
  rw [h2, List.append_assoc, List.append_assoc]
  exact ⟨_, (List.append_assoc _ _ _)⟩
theorem own_rowR {B g off n cap : Nat} {w : World} {L : List RV} (h : RR.Own B w (.slice (some ⟨g, off, none⟩) n cap) L) : RR.Row w g off L ∧ n = L.length := by
  have hl : n = L.length := by
    obtain ⟨_, ⟨e, _⟩ | ⟨g', cap', cur, e, _⟩⟩ := h
    · cases e
    · cases e; rfl
  refine ⟨?_, hl⟩
  rcases h.is with ⟨e, _⟩ | ⟨_, b, o, cap', e, hb, hr⟩
  · intro j hj; rw [e] at hj; exact absurd hj (Nat.not_lt_zero _)
  · cases e
    exact hr
theorem cell_in {w : World} {b i : Nat} {v : Value} (h : w.cell? ⟨b, i, none⟩ = some v) : b < w.heap.size := by
  rcases Nat.lt_or_ge b w.heap.size with q | q
  · exact q
  · unfold World.cell? at h
    have e : w.heap[b]? = none := by simp; omega
    simp [e] at h
end Go.Proofs.YthhceggcdaljdaaGreat
