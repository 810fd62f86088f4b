/- a region that draws its order, within a fence, whose first operations only read or call what leaves all that was as it was, and whose last ones wait for all of these and for one another: one walk in the order of the text serves every order, and the last ones may do whatever they do (a call of yield) -/
import Derived.Test.YthhceggcdaljdaaGreatG01
import Derived.Deep.QuietTactic
import Derived.BigQuiet
import Derived.OrdersIn
import Derived.TacticsIn
namespace Go.Proofs.YthhceggcdaljdaaGreat
open Go.RowKit
set_option linter.unusedVariables false
set_option linter.unusedSimpArgs false

theorem ready_none' {md : Region.Mode} {ops : Array Oper} {listed : Array Bool} (hz : listed.size = ops.size) (ha : ∀ i o, ops[i]? = some o → ∀ e ∈ o.after, Region.binds md e = true → e.on < i) (h : Region.ready md ops listed = []) : ∀ i, i < ops.size → listed.getD i false = true := by
  intro i
  induction i using Nat.strongRecOn with
  | _ i ih =>
    intro hi
    cases hl : listed.getD i true with
    | true =>
      have hlt : i < listed.size := by omega
      simp [Array.getElem?_eq_getElem hlt] at hl ⊢
      exact hl
    | false =>
      have : i ∈ Region.ready md ops listed := mem_ready.2 ⟨hl, ops[i], Array.getElem?_eq_getElem hi, fun e he hb => by
        have := ha i _ (Array.getElem?_eq_getElem hi) e he hb
        exact ih e.on this (by omega)⟩
      rw [h] at this
      cases this
/-- a world behind W in which all that was in W is as it was -/
structure Bw (W : World) where
  w : World
  h : Below W.heap.size W w
instance (W : World) : Nonempty (Bw W) := ⟨⟨W, Below.refl _ _⟩⟩
theorem bw_call {P : Program} {f : FuncId} {args : Array Value} {W : World} {p : Bw W} {v : Value} (h : Calls P f args p.w (fun e w' => e = .returned v ∧ Below p.w.heap.size p.w w')) : Calls P f args p.w fun e w'' => e = .returned v ∧ ∃ q : Bw W, w'' = q.w :=
  h.mono fun _ w' ⟨he, hb⟩ => ⟨he, ⟨w', p.h.trans (hb.mono p.h.size)⟩, rfl⟩
theorem bw_cell {W : World} {a : Addr} {v : Value} (h : W.cell? a = some v) (p : Bw W) : p.w.cell? a = some v := (p.h.cell (World.block_lt_of_cell? _ _ h)).trans h
def bindsOn (o : Oper) (j : Nat) : Bool := o.after.any fun e => Region.binds .any e && decide (e.on = j)
def backB (o : Oper) (i : Nat) : Bool := o.after.all fun e => !Region.binds .any e || decide (e.on < i)
/-- what is asked of such a region -/
def tailB (pre tl : List Oper) : Bool :=
  ((pre ++ tl).all fun o => o.guard.isNone) &&
  (((List.range (pre ++ tl).length).all fun i => match (pre ++ tl)[i]? with
    | none => true
    | some o => backB o i && (decide (i ≤ pre.length) || bindsOn o (i - 1))) &&
  ((List.range pre.length).all fun j => (List.range (pre.length + 1)).any fun i => decide (j < i) && (match (pre ++ tl)[i]? with
    | none => false
    | some o => bindsOn o j)))
theorem bindsOn_spec {o : Oper} {j : Nat} (h : bindsOn o j = true) : ∃ e ∈ o.after, Region.binds .any e = true ∧ e.on = j := by
  obtain ⟨e, he, hq⟩ := Array.any_eq_true'.1 h
  rw [Bool.and_eq_true, decide_eq_true_eq] at hq
  exact ⟨e, he, hq.1, hq.2⟩
theorem backB_spec {o : Oper} {i : Nat} (h : backB o i = true) : ∀ e ∈ o.after, Region.binds .any e = true → e.on < i := fun e he hb => by
  have q := (Array.all_eq_true_iff_forall_mem.1 h) e he
  rw [hb] at q
  simpa using q
section
variable {F : Fence} {n : Nat} {P : Program} {Q : Exit → Act → World → Prop} {C : World → Prop} {pre tl : List Oper}
theorem wpIn_of_quiet {o : Oper} {a : Act} {K : Act → Prop} {K' : Act → World → Prop} {w : World} (hw : C w) (h : ∀ a w', C w' → K a → K' a w') (hh : o.quiet P a C K) : o.wpIn Fence.wide n P a w K' Q := by
  obtain ⟨v, h1, h2⟩ := hh
  have h3 := h1 w hw
  refine ⟨fun _ _ => trivial, ?_⟩
  rw [show Fence.wide.round = none from rfl, Oper.semAt_none]
  unfold Oper.quietAt at h3
  generalize (execOp a.eval o).run P w = r at *
  cases r with
  | halt x w' => simp only [Oper.quietUpon] at h3
  | ok x w' =>
    cases x <;> simp only [Oper.quietUpon] at h3
    case value u =>
      obtain ⟨rfl, rfl⟩ := h3
      exact h _ _ hw h2
    case skip =>
      obtain ⟨rfl, rfl⟩ := h3
      exact h _ _ hw h2
    case enter f args =>
      obtain ⟨rfl, hc⟩ := h3
      rw [Oper.uponIn_enter]
      exact ⟨fun e => (by cases e), callsIn_wide.2 (hc.mono fun e w'' ⟨he, hw''⟩ => by subst he; exact h _ _ hw'' h2)⟩
structure TailOk (pre tl : List Oper) : Prop where
  guard : ∀ (i : Nat) (o : Oper), (pre ++ tl)[i]? = some o → o.guard = none
  back : ∀ (i : Nat) (o : Oper), (pre ++ tl)[i]? = some o → ∀ e ∈ o.after, Region.binds .any e = true → e.on < i
  chain : ∀ (i : Nat) (o : Oper), (pre ++ tl)[i]? = some o → pre.length < i → ∃ e ∈ o.after, Region.binds .any e = true ∧ e.on = i - 1
  sink : ∀ (j : Nat), j < pre.length → ∃ (i : Nat) (o : Oper), j < i ∧ i ≤ pre.length ∧ (pre ++ tl)[i]? = some o ∧ ∃ e ∈ o.after, Region.binds .any e = true ∧ e.on = j
theorem tailOk (h : tailB pre tl = true) : TailOk pre tl := by
  unfold tailB at h
  rw [Bool.and_eq_true, Bool.and_eq_true, List.all_eq_true, List.all_eq_true, List.all_eq_true] at h
  obtain ⟨hg, hb, hs⟩ := h
  have hb' : ∀ i o, (pre ++ tl)[i]? = some o → backB o i = true ∧ (i ≤ pre.length ∨ bindsOn o (i - 1) = true) := fun i o ho => by
    have q := hb i (List.mem_range.2 (List.getElem?_eq_some_iff.1 ho).1)
    simp only [ho] at q
    rw [Bool.and_eq_true, Bool.or_eq_true, decide_eq_true_eq] at q
    exact q
  refine ⟨fun i o ho => by simpa using hg o (List.mem_of_getElem? ho), fun i o ho => backB_spec (hb' i o ho).1, fun i o ho hi => ?_, fun j hj => ?_⟩
  · rcases (hb' i o ho).2 with q | q
    · omega
    · exact bindsOn_spec q
  · have q := hs j (List.mem_range.2 hj)
    rw [List.any_eq_true] at q
    obtain ⟨i, hi, q⟩ := q
    rw [Bool.and_eq_true, decide_eq_true_eq] at q
    obtain ⟨q1, q2⟩ := q
    have hi := List.mem_range.1 hi
    cases ho : (pre ++ tl)[i]? with
    | none => simp [ho] at q2
    | some o => simp only [ho] at q2; exact ⟨i, o, q1, by omega, ho, bindsOn_spec q2⟩
/-- the tail, once all ahead of it are done -/
theorem tail_seq (hT : TailOk pre tl) : ∀ (rest : List Oper) (m fuel : Nat) (listed : Array Bool) (a : Act) (w : World), m + rest.length = (pre ++ tl).length → pre.length ≤ m → (∀ j, rest[j]? = (pre ++ tl)[m + j]?) → rest.length ≤ fuel →
    listed.size = (pre ++ tl).length → (∀ i, i < m → listed.getD i false = true) → (∀ i, m ≤ i → i < listed.size → listed.getD i true = false) → wpListIn Fence.wide n P (pre ++ tl).toArray Q rest a w → wpAnyIn Fence.wide n P .any (pre ++ tl).toArray Q fuel listed a w
  | [], m, fuel, listed, a, w, hm, hk, hr, hf, hz, h1, h2, h => by
    have hnil : Region.ready .any (pre ++ tl).toArray listed = [] := List.eq_nil_iff_forall_not_mem.2 fun i hi => by
      obtain ⟨hun, o, ho, _⟩ := mem_ready.1 hi
      have hlt : i < (pre ++ tl).length := by simpa using (Array.getElem?_eq_some_iff.1 ho).1
      simp only [List.length_nil, Nat.add_zero] at hm
      have := h1 i (by omega)
      rw [Array.getD_eq_getD_getElem?] at hun this
      rw [Array.getElem?_eq_getElem (by omega)] at hun this
      simp only [Option.getD_some] at hun this
      rw [hun] at this
      cases this
    cases fuel with
    | zero => exact ⟨hnil, h⟩
    | succ f => exact ⟨fun _ => h, fun i hi => by rw [hnil] at hi; cases hi⟩
  | o :: rest, m, fuel, listed, a, w, hm, hk, hr, hf, hz, h1, h2, h => by
    have ho : (pre ++ tl)[m]? = some o := by simpa using (hr 0).symm
    have hml : m < (pre ++ tl).length := by simp only [List.length_cons] at hm; omega
    cases fuel with
    | zero => simp at hf
    | succ f =>
      have hmem : ∀ i, i ∈ Region.ready .any (pre ++ tl).toArray listed → i = m := fun i hi => by
        obtain ⟨hun, o', ho', hall⟩ := mem_ready.1 hi
        have ho' : (pre ++ tl)[i]? = some o' := by simpa using ho'
        have hlt := (List.getElem?_eq_some_iff.1 ho').1
        rcases Nat.lt_trichotomy i m with q | q | q
        · have := h1 i q
          rw [Array.getD_eq_getD_getElem?, Array.getElem?_eq_getElem (by omega)] at hun this
          simp only [Option.getD_some] at hun this
          rw [hun] at this
          cases this
        · exact q
        · obtain ⟨e, he, hb, hon⟩ := hT.chain i o' ho' (by omega)
          have := hall e he hb
          rw [hon] at this
          have h3 := h2 (i - 1) (by omega) (by omega)
          rw [Array.getD_eq_getD_getElem?, Array.getElem?_eq_getElem (by omega)] at this h3
          simp only [Option.getD_some] at this h3
          rw [this] at h3
          cases h3
      refine ⟨fun hnil => ?_, fun i hi => ?_⟩
      · have : m ∈ Region.ready .any (pre ++ tl).toArray listed := mem_ready.2 ⟨h2 m (Nat.le_refl _) (by omega), o, by simpa using ho, fun e he hb => h1 _ (hT.back m o ho e he hb)⟩
        rw [hnil] at this
        cases this
      · obtain rfl := (hmem i hi).symm
        have hw : Region.wanted o (yielded (pre ++ tl).toArray a.tmps) = true := by unfold Region.wanted; rw [hT.guard m o ho]
        unfold wpOpIn
        simp only [List.getElem?_toArray, ho, hw, if_true]
        unfold wpListIn at h
        simp only [hw, if_true] at h
        refine Oper.wpIn_mono (fun a' w' h' => ?_) h
        refine tail_seq hT rest (m + 1) f (listed.setIfInBounds m true) a' w' (by simp only [List.length_cons] at hm; omega) (by omega) (fun j => by have := hr (j + 1); simpa [Nat.add_assoc, Nat.add_comm 1 j] using this) (by simp only [List.length_cons] at hf; omega) (by simpa using hz) (fun j hj => ?_) (fun j hj hjs => ?_) h'
        · by_cases e : j = m
          · subst e
            simp [show j < listed.size by omega]
          · rw [getD_set_ne false (Ne.symm e)]
            exact h1 j (by omega)
        · rw [getD_set_ne true (by omega)]
          exact h2 j (by omega) (by simpa using hjs)
/-- the operations ahead of the tail, in whatever order -/
theorem tail_sim (hT : TailOk pre tl) (htl : tl ≠ []) : ∀ (fuel : Nat) (listed listed' : Array Bool) (a : Act) (w : World), wpAnyQ P .any pre.toArray C (fun a' => ∀ w', C w' → wpListIn Fence.wide n P (pre ++ tl).toArray Q tl a' w') fuel listed' a → C w →
    listed.size = (pre ++ tl).length → listed'.size = pre.length → (∀ i, i < pre.length → ∀ d, listed.getD i d = listed'.getD i d) → (∀ i, pre.length ≤ i → i < listed.size → listed.getD i true = false) →
    (∀ i o, pre[i]? = some o → listed'.getD i false = true → ∀ e ∈ o.after, Region.binds .any e = true → listed'.getD e.on false = true) →
    wpAnyIn Fence.wide n P .any (pre ++ tl).toArray Q (fuel + tl.length) listed a w := fun fuel => by
  induction fuel with
  | zero =>
    intro listed listed' a w h hC hz hz' he hun hcl
    have hall := ready_none' (ops := pre.toArray) (by simpa using hz') (fun i o ho => hT.back i o (by rw [List.getElem?_append_left (by simpa using (Array.getElem?_eq_some_iff.1 ho).1)]; simpa using ho)) h.1
    exact tail_seq hT tl pre.length _ listed a w (by simp) (Nat.le_refl _) (fun j => by rw [List.getElem?_append_right (by omega)]; congr 1; omega) (by omega) hz (fun i hi => by rw [he i hi]; exact hall i (by simpa using hi)) hun (h.2 w hC)
  | succ fuel ih =>
    intro listed listed' a w h hC hz hz' he hun hcl
    obtain ⟨h0, h1⟩ := h
    by_cases hnil : Region.ready .any pre.toArray listed' = []
    · have hall := ready_none' (ops := pre.toArray) (by simpa using hz') (fun i o ho => hT.back i o (by rw [List.getElem?_append_left (by simpa using (Array.getElem?_eq_some_iff.1 ho).1)]; simpa using ho)) hnil
      exact tail_seq hT tl pre.length _ listed a w (by simp) (Nat.le_refl _) (fun j => by rw [List.getElem?_append_right (by omega)]; congr 1; omega) (by omega) hz (fun i hi => by rw [he i hi]; exact hall i (by simpa using hi)) hun (h0 hnil w hC)
    · -- something ahead of the tail is not yet done: then nothing of the tail is ready
      obtain ⟨i0, hi0⟩ := List.exists_mem_of_ne_nil _ hnil
      have hopen : ∃ j, j < pre.length ∧ listed'.getD j true = false := by
        obtain ⟨q, o, ho, _⟩ := mem_ready.1 hi0
        exact ⟨i0, by simpa using (Array.getElem?_eq_some_iff.1 ho).1, q⟩
      have hk : ∀ i, i ∈ Region.ready .any (pre ++ tl).toArray listed → i < pre.length := fun i hi => by
        obtain ⟨hu, o, ho, hall⟩ := mem_ready.1 hi
        have ho : (pre ++ tl)[i]? = some o := by simpa using ho
        have hlt := (List.getElem?_eq_some_iff.1 ho).1
        refine Nat.lt_of_not_le fun hle => ?_
        rcases Nat.eq_or_lt_of_le hle with q | q
        · -- the last one that is not done has one behind it that waits for it
          have hmax : ∀ d j, j < pre.length → pre.length - j ≤ d → listed'.getD j true = false → False := fun d => by
            induction d with
            | zero => intro j hj hd; omega
            | succ d ihd =>
              intro j hj hd hjf
              have hjf' : listed'.getD j false = false := by
                rw [Array.getD_eq_getD_getElem?, Array.getElem?_eq_getElem (by omega)] at hjf ⊢
                exact hjf
              obtain ⟨i2, o2, h2a, h2b, ho2, e, hem, hb, hon⟩ := hT.sink j hj
              rcases Nat.eq_or_lt_of_le h2b with r | r
              · rw [r, q, ho] at ho2
                cases ho2
                have := hall e hem hb
                rw [hon, he j hj, hjf'] at this
                cases this
              · refine ihd i2 r (by omega) ?_
                cases hl : listed'.getD i2 true with
                | false => rfl
                | true =>
                  have hl' : listed'.getD i2 false = true := by
                    rw [Array.getD_eq_getD_getElem?, Array.getElem?_eq_getElem (by omega)] at hl ⊢
                    exact hl
                  have := hcl i2 o2 (by rw [← ho2, List.getElem?_append_left r]) hl' e hem hb
                  rw [hon, hjf'] at this
                  cases this
          obtain ⟨j, hj, hjf⟩ := hopen
          exact hmax _ j hj (Nat.le_refl _) hjf
        · obtain ⟨e, hem, hb, hon⟩ := hT.chain i o ho q
          have h3 := hall e hem hb
          have h4 := hun (i - 1) (by omega) (by omega)
          rw [hon, Array.getD_eq_getD_getElem?, Array.getElem?_eq_getElem (by omega)] at h3
          rw [Array.getD_eq_getD_getElem?, Array.getElem?_eq_getElem (by omega)] at h4
          simp only [Option.getD_some] at h3 h4
          rw [h3] at h4
          cases h4
      rw [show fuel + 1 + tl.length = (fuel + tl.length) + 1 by omega]
      refine ⟨fun hr => ?_, fun i hi => ?_⟩
      · obtain ⟨q, o, ho, hall⟩ := mem_ready.1 hi0
        have hlt : i0 < pre.length := by simpa using (Array.getElem?_eq_some_iff.1 ho).1
        have ho' : (pre ++ tl)[i0]? = some o := by rw [List.getElem?_append_left hlt]; simpa using ho
        have : i0 ∈ Region.ready .any (pre ++ tl).toArray listed := mem_ready.2 ⟨by rw [he i0 hlt]; exact q, o, by simpa using ho', fun e hem hb => by rw [he _ (Nat.lt_trans (hT.back i0 o ho' e hem hb) hlt)]; exact hall e hem hb⟩
        rw [hr] at this
        cases this
      · have hlt := hk i hi
        obtain ⟨hu, o, ho, hall⟩ := mem_ready.1 hi
        have ho : (pre ++ tl)[i]? = some o := by simpa using ho
        have hop : pre[i]? = some o := by rw [← ho, List.getElem?_append_left hlt]
        have hi' : i ∈ Region.ready .any pre.toArray listed' := mem_ready.2 ⟨by rw [← he i hlt]; exact hu, o, by simpa using hop, fun e hem hb => by rw [← he _ (Nat.lt_trans (hT.back i o ho e hem hb) hlt)]; exact hall e hem hb⟩
        have hq := h1 i hi'
        have hw : ∀ (ops : Array Oper), Region.wanted o (yielded ops a.tmps) = true := fun ops => by unfold Region.wanted; rw [hT.guard i o ho]
        unfold qOp at hq
        simp only [List.getElem?_toArray, hop, hw, if_true] at hq
        unfold wpOpIn
        simp only [List.getElem?_toArray, ho, hw, if_true]
        refine wpIn_of_quiet hC (fun a' w' hC' h' => ?_) hq
        refine ih (listed.setIfInBounds i true) (listed'.setIfInBounds i true) a' w' h' hC' (by simpa using hz) (by simpa using hz') (fun j hj d => ?_) (fun j hj hjs => ?_) (fun j oj hoj hlj e hem hb => ?_)
        · by_cases e : i = j
          · subst e
            simp [show i < listed.size by simp at hz ⊢; omega, show i < listed'.size by omega]
          · rw [getD_set_ne d e, getD_set_ne d e]
            exact he j hj d
        · rw [getD_set_ne true (by omega)]
          exact hun j hj (by simpa using hjs)
        · by_cases e' : i = j
          · subst e'
            rw [hop] at hoj
            cases hoj
            exact getD_set_true ((he _ (Nat.lt_trans (hT.back i o ho e hem hb) hlt) false).symm.trans (hall e hem hb))
          · rw [getD_set_ne false e'] at hlj
            exact getD_set_true (hcl j oj hoj hlj e hem hb)
theorem wpIn_region_tail {id : Nat} {a : Act} {w : World} (pre tl : List Oper) {l : Array Oper} (hl : l = (pre ++ tl).toArray) (hm : P.follows .mixedOrders = true) (hB : Region.lexB .any pre.toArray = true) (hT : tailB pre tl = true) (htl : tl ≠ [])
    (h : wpQuiet P pre.toArray (fun w' => ∃ p : Bw w, w' = p.w) (fun a' => ∀ w', (∃ p : Bw w, w' = p.w) → wpListIn Fence.wide n P (pre ++ tl).toArray Q tl a' w') pre a) : (Code.region id l true).wpIn Fence.wide n P Q a w := by
  subst hl
  refine wpIn_region_any hm ?_
  have hT := tailOk hT
  simp only [Region.lexB, Bool.and_eq_true] at hB
  have hq := wpAnyQ_lex (C := fun w' => ∃ p : Bw w, w' = p.w) (md := .any) hB.1 pre 0 (Array.replicate pre.length false) a (by simp) (by simpa using hB.2) h
  have := tail_sim (Q := Q) (n := n) hT htl pre.length (Array.replicate (pre ++ tl).length false) (Array.replicate pre.length false) a { w with drawn := w.drawn + 1 } hq ⟨⟨_, (Below.refl _ w).drew⟩, rfl⟩ (by simp) (by simp)
    (fun i hi d => by simp only [Array.getD_eq_getD_getElem?]; rw [Array.getElem?_replicate, Array.getElem?_replicate, if_pos hi, if_pos (by simp; omega)])
    (fun i hi hs => by simp only [Array.getD_eq_getD_getElem?]; rw [Array.getElem?_replicate, if_pos (by simpa using hs)]; rfl)
    (fun i o ho hl => by simp only [Array.getD_eq_getD_getElem?] at hl; rw [Array.getElem?_replicate] at hl; split at hl <;> cases hl)
  simpa using this
theorem wpIn_region_last {id : Nat} {a : Act} {w : World} {l pre tl : List Oper} (k : Nat) (hp : l.take k = pre) (ht : l.drop k = tl) (hm : P.follows .mixedOrders = true) (hB : Region.lexB .any pre.toArray = true) (hT : tailB pre tl = true) (htl : tl ≠ [])
    (h : wpQuiet P pre.toArray (fun w' => ∃ p : Bw w, w' = p.w) (fun a' => ∀ w', (∃ p : Bw w, w' = p.w) → wpListIn Fence.wide n P (pre ++ tl).toArray Q tl a' w') pre a) : (Code.region id l.toArray true).wpIn Fence.wide n P Q a w :=
  wpIn_region_tail pre tl (by rw [← hp, ← ht, List.take_append_drop]) hm hB hT htl h
end
end Go.Proofs.YthhceggcdaljdaaGreat
