/- a region that draws its order, whose first operations only read or call what leaves all that was as it was, and whose last ones wait for all of these and for one another: one walk in the order of the text serves every order -/
import Derived.Test.YthomddbekiknjaaGreatG01
import Derived.Deep.QuietTactic
import Derived.BigQuiet
import Derived.Deep.RegionWith
import Derived.Test.YthomddbekiknjaaGreatG34
import Derived.Deep.RegionLaw
import Derived.Test.YthomddbekiknjaaGreatG31
namespace Go.Proofs.YthomddbekiknjaaGreat
open Go.RowKit
set_option linter.unusedVariables false
set_option linter.unusedSimpArgs false

theorem ready_noneL {md : Region.Mode} {ops : Array Oper} {listed : Array Bool} (hz : listed.size = ops.size) (ha : ∀ i o, ops[i]? = some o → ∀ e ∈ o.after, Region.binds md e = true → e.on < i) (h : Region.ready md ops listed = []) : ∀ i, i < ops.size → listed.getD i false = true := by
  intro i
  induction i using Nat.strongRecOn with
  | _ i ih =>
    intro hi
    cases hl : listed.getD i true with
    | true =>
      have hlt : i < listed.size := by omega
      simp [Array.getElem?_eq_getElem hlt] at hl ⊢
      exact hl
    | false =>
      have : i ∈ Region.ready md ops listed := mem_ready.2 ⟨hl, ops[i], Array.getElem?_eq_getElem hi, fun e he hb => by
        have := ha i _ (Array.getElem?_eq_getElem hi) e he hb
        exact ih e.on this (by omega)⟩
      rw [h] at this
      cases this
def bindsOnL (o : Oper) (j : Nat) : Bool := o.after.any fun e => Region.binds .any e && decide (e.on = j)
def backBL (o : Oper) (i : Nat) : Bool := o.after.all fun e => !Region.binds .any e || decide (e.on < i)
/-- what is asked of such a region -/
def tailBL (pre tl : List Oper) : Bool :=
  ((pre ++ tl).all fun o => o.guard.isNone) &&
  (((List.range (pre ++ tl).length).all fun i => match (pre ++ tl)[i]? with
    | none => true
    | some o => backBL o i && (decide (i ≤ pre.length) || bindsOnL o (i - 1))) &&
  ((List.range pre.length).all fun j => (List.range (pre.length + 1)).any fun i => decide (j < i) && (match (pre ++ tl)[i]? with
    | none => false
    | some o => bindsOnL o j)))
theorem bindsOnL_spec {o : Oper} {j : Nat} (h : bindsOnL o j = true) : ∃ e ∈ o.after, Region.binds .any e = true ∧ e.on = j := by
  obtain ⟨e, he, hq⟩ := Array.any_eq_true'.1 h
  rw [Bool.and_eq_true, decide_eq_true_eq] at hq
  exact ⟨e, he, hq.1, hq.2⟩
theorem backBL_spec {o : Oper} {i : Nat} (h : backBL o i = true) : ∀ e ∈ o.after, Region.binds .any e = true → e.on < i := fun e he hb => by
  have q := (Array.all_eq_true_iff_forall_mem.1 h) e he
  rw [hb] at q
  simpa using q
section
variable {P : Program} {Q : Exit → Act → World → Prop} {C : World → Prop} {pre tl : List Oper}
structure TailOkL (pre tl : List Oper) : Prop where
  guard : ∀ (i : Nat) (o : Oper), (pre ++ tl)[i]? = some o → o.guard = none
  back : ∀ (i : Nat) (o : Oper), (pre ++ tl)[i]? = some o → ∀ e ∈ o.after, Region.binds .any e = true → e.on < i
  chain : ∀ (i : Nat) (o : Oper), (pre ++ tl)[i]? = some o → pre.length < i → ∃ e ∈ o.after, Region.binds .any e = true ∧ e.on = i - 1
  sink : ∀ (j : Nat), j < pre.length → ∃ (i : Nat) (o : Oper), j < i ∧ i ≤ pre.length ∧ (pre ++ tl)[i]? = some o ∧ ∃ e ∈ o.after, Region.binds .any e = true ∧ e.on = j
theorem tailOkL (h : tailBL pre tl = true) : TailOkL pre tl := by
  unfold tailBL at h
  rw [Bool.and_eq_true, Bool.and_eq_true, List.all_eq_true, List.all_eq_true, List.all_eq_true] at h
  obtain ⟨hg, hb, hs⟩ := h
  have hb' : ∀ i o, (pre ++ tl)[i]? = some o → backBL o i = true ∧ (i ≤ pre.length ∨ bindsOnL o (i - 1) = true) := fun i o ho => by
    have q := hb i (List.mem_range.2 (List.getElem?_eq_some_iff.1 ho).1)
    simp only [ho] at q
    rw [Bool.and_eq_true, Bool.or_eq_true, decide_eq_true_eq] at q
    exact q
  refine ⟨fun i o ho => by simpa using hg o (List.mem_of_getElem? ho), fun i o ho => backBL_spec (hb' i o ho).1, fun i o ho hi => ?_, fun j hj => ?_⟩
  · rcases (hb' i o ho).2 with q | q
    · omega
    · exact bindsOnL_spec q
  · have q := hs j (List.mem_range.2 hj)
    rw [List.any_eq_true] at q
    obtain ⟨i, hi, q⟩ := q
    rw [Bool.and_eq_true, decide_eq_true_eq] at q
    obtain ⟨q1, q2⟩ := q
    have hi := List.mem_range.1 hi
    cases ho : (pre ++ tl)[i]? with
    | none => simp [ho] at q2
    | some o => simp only [ho] at q2; exact ⟨i, o, q1, by omega, ho, bindsOnL_spec q2⟩
/-- the tail, once all ahead of it are done -/
theorem tailL_seq (hT : TailOkL pre tl) : ∀ (rest : List Oper) (m fuel : Nat) (listed : Array Bool) (a : Act) (w : World), m + rest.length = (pre ++ tl).length → pre.length ≤ m → (∀ j, rest[j]? = (pre ++ tl)[m + j]?) → rest.length ≤ fuel →
    listed.size = (pre ++ tl).length → (∀ i, i < m → listed.getD i false = true) → (∀ i, m ≤ i → i < listed.size → listed.getD i true = false) → wpList P (pre ++ tl).toArray Q rest a w → wpAny P .any (pre ++ tl).toArray Q fuel listed a w
  | [], m, fuel, listed, a, w, hm, hk, hr, hf, hz, h1, h2, h => by
    have hnil : Region.ready .any (pre ++ tl).toArray listed = [] := List.eq_nil_iff_forall_not_mem.2 fun i hi => by
      obtain ⟨hun, o, ho, _⟩ := mem_ready.1 hi
      have hlt : i < (pre ++ tl).length := by simpa using (Array.getElem?_eq_some_iff.1 ho).1
      simp only [List.length_nil, Nat.add_zero] at hm
      have := h1 i (by omega)
      rw [Array.getD_eq_getD_getElem?] at hun this
      rw [Array.getElem?_eq_getElem (by omega)] at hun this
      simp only [Option.getD_some] at hun this
      rw [hun] at this
      cases this
    cases fuel with
    | zero => exact ⟨hnil, h⟩
    | succ f => exact ⟨fun _ => h, fun i hi => by rw [hnil] at hi; cases hi⟩
  | o :: rest, m, fuel, listed, a, w, hm, hk, hr, hf, hz, h1, h2, h => by
    have ho : (pre ++ tl)[m]? = some o := by simpa using (hr 0).symm
    have hml : m < (pre ++ tl).length := by simp only [List.length_cons] at hm; omega
    cases fuel with
    | zero => simp at hf
    | succ f =>
      have hmem : ∀ i, i ∈ Region.ready .any (pre ++ tl).toArray listed → i = m := fun i hi => by
        obtain ⟨hun, o', ho', hall⟩ := mem_ready.1 hi
        have ho' : (pre ++ tl)[i]? = some o' := by simpa using ho'
        have hlt := (List.getElem?_eq_some_iff.1 ho').1
        rcases Nat.lt_trichotomy i m with q | q | q
        · have := h1 i q
          rw [Array.getD_eq_getD_getElem?, Array.getElem?_eq_getElem (by omega)] at hun this
          simp only [Option.getD_some] at hun this
          rw [hun] at this
          cases this
        · exact q
        · obtain ⟨e, he, hb, hon⟩ := hT.chain i o' ho' (by omega)
          have := hall e he hb
          rw [hon] at this
          have h3 := h2 (i - 1) (by omega) (by omega)
          rw [Array.getD_eq_getD_getElem?, Array.getElem?_eq_getElem (by omega)] at this h3
          simp only [Option.getD_some] at this h3
          rw [this] at h3
          cases h3
      refine ⟨fun hnil => ?_, fun i hi => ?_⟩
      · have : m ∈ Region.ready .any (pre ++ tl).toArray listed := mem_ready.2 ⟨h2 m (Nat.le_refl _) (by omega), o, by simpa using ho, fun e he hb => h1 _ (hT.back m o ho e he hb)⟩
        rw [hnil] at this
        cases this
      · obtain rfl := (hmem i hi).symm
        have hw : Region.wanted o (yielded (pre ++ tl).toArray a.tmps) = true := by unfold Region.wanted; rw [hT.guard m o ho]
        unfold wpOp
        simp only [List.getElem?_toArray, ho, hw, if_true]
        unfold wpList at h
        simp only [hw, if_true] at h
        refine h.elim (fun h => .inl (Oper.wp_mono (fun a' w' h' => ?_) h)) .inr
        refine tailL_seq hT rest (m + 1) f (listed.setIfInBounds m true) a' w' (by simp only [List.length_cons] at hm; omega) (by omega) (fun j => by have := hr (j + 1); simpa [Nat.add_assoc, Nat.add_comm 1 j] using this) (by simp only [List.length_cons] at hf; omega) (by simpa using hz) (fun j hj => ?_) (fun j hj hjs => ?_) h'
        · by_cases e : j = m
          · subst e
            simp [show j < listed.size by omega]
          · rw [getD_set_ne false (Ne.symm e)]
            exact h1 j (by omega)
        · rw [getD_set_ne true (by omega)]
          exact h2 j (by omega) (by simpa using hjs)
/-- the operations ahead of the tail, in whatever order -/
theorem tailL_sim (hT : TailOkL pre tl) (htl : tl ≠ []) : ∀ (fuel : Nat) (listed listed' : Array Bool) (a : Act) (w : World), wpAnyQ P .any pre.toArray C (fun a' => ∀ w', C w' → wpList P (pre ++ tl).toArray Q tl a' w') fuel listed' a → C w →
    listed.size = (pre ++ tl).length → listed'.size = pre.length → (∀ i, i < pre.length → ∀ d, listed.getD i d = listed'.getD i d) → (∀ i, pre.length ≤ i → i < listed.size → listed.getD i true = false) →
    (∀ i o, pre[i]? = some o → listed'.getD i false = true → ∀ e ∈ o.after, Region.binds .any e = true → listed'.getD e.on false = true) →
    wpAny P .any (pre ++ tl).toArray Q (fuel + tl.length) listed a w := fun fuel => by
  induction fuel with
  | zero =>
    intro listed listed' a w h hC hz hz' he hun hcl
    have hall := ready_noneL (ops := pre.toArray) (by simpa using hz') (fun i o ho => hT.back i o (by rw [List.getElem?_append_left (by simpa using (Array.getElem?_eq_some_iff.1 ho).1)]; simpa using ho)) h.1
    exact tailL_seq hT tl pre.length _ listed a w (by simp) (Nat.le_refl _) (fun j => by rw [List.getElem?_append_right (by omega)]; congr 1; omega) (by omega) hz (fun i hi => by rw [he i hi]; exact hall i (by simpa using hi)) hun (h.2 w hC)
  | succ fuel ih =>
    intro listed listed' a w h hC hz hz' he hun hcl
    obtain ⟨h0, h1⟩ := h
    by_cases hnil : Region.ready .any pre.toArray listed' = []
    · have hall := ready_noneL (ops := pre.toArray) (by simpa using hz') (fun i o ho => hT.back i o (by rw [List.getElem?_append_left (by simpa using (Array.getElem?_eq_some_iff.1 ho).1)]; simpa using ho)) hnil
      exact tailL_seq hT tl pre.length _ listed a w (by simp) (Nat.le_refl _) (fun j => by rw [List.getElem?_append_right (by omega)]; congr 1; omega) (by omega) hz (fun i hi => by rw [he i hi]; exact hall i (by simpa using hi)) hun (h0 hnil w hC)
    · -- something ahead of the tail is not yet done: then nothing of the tail is ready
      obtain ⟨i0, hi0⟩ := List.exists_mem_of_ne_nil _ hnil
      have hopen : ∃ j, j < pre.length ∧ listed'.getD j true = false := by
        obtain ⟨q, o, ho, _⟩ := mem_ready.1 hi0
        exact ⟨i0, by simpa using (Array.getElem?_eq_some_iff.1 ho).1, q⟩
      have hk : ∀ i, i ∈ Region.ready .any (pre ++ tl).toArray listed → i < pre.length := fun i hi => by
        obtain ⟨hu, o, ho, hall⟩ := mem_ready.1 hi
        have ho : (pre ++ tl)[i]? = some o := by simpa using ho
        have hlt := (List.getElem?_eq_some_iff.1 ho).1
        refine Nat.lt_of_not_le fun hle => ?_
        rcases Nat.eq_or_lt_of_le hle with q | q
        · -- the last one that is not done has one behind it that waits for it
          have hmax : ∀ d j, j < pre.length → pre.length - j ≤ d → listed'.getD j true = false → False := fun d => by
            induction d with
            | zero => intro j hj hd; omega
            | succ d ihd =>
              intro j hj hd hjf
              have hjf' : listed'.getD j false = false := by
                rw [Array.getD_eq_getD_getElem?, Array.getElem?_eq_getElem (by omega)] at hjf ⊢
                exact hjf
              obtain ⟨i2, o2, h2a, h2b, ho2, e, hem, hb, hon⟩ := hT.sink j hj
              rcases Nat.eq_or_lt_of_le h2b with r | r
              · rw [r, q, ho] at ho2
                cases ho2
                have := hall e hem hb
                rw [hon, he j hj, hjf'] at this
                cases this
              · refine ihd i2 r (by omega) ?_
                cases hl : listed'.getD i2 true with
                | false => rfl
                | true =>
                  have hl' : listed'.getD i2 false = true := by
                    rw [Array.getD_eq_getD_getElem?, Array.getElem?_eq_getElem (by omega)] at hl ⊢
                    exact hl
                  have := hcl i2 o2 (by rw [← ho2, List.getElem?_append_left r]) hl' e hem hb
                  rw [hon, hjf'] at this
                  cases this
          obtain ⟨j, hj, hjf⟩ := hopen
          exact hmax _ j hj (Nat.le_refl _) hjf
        · obtain ⟨e, hem, hb, hon⟩ := hT.chain i o ho q
          have h3 := hall e hem hb
          have h4 := hun (i - 1) (by omega) (by omega)
          rw [hon, Array.getD_eq_getD_getElem?, Array.getElem?_eq_getElem (by omega)] at h3
          rw [Array.getD_eq_getD_getElem?, Array.getElem?_eq_getElem (by omega)] at h4
          simp only [Option.getD_some] at h3 h4
          rw [h3] at h4
          cases h4
      rw [show fuel + 1 + tl.length = (fuel + tl.length) + 1 by omega]
      refine ⟨fun hr => ?_, fun i hi => ?_⟩
      · obtain ⟨q, o, ho, hall⟩ := mem_ready.1 hi0
        have hlt : i0 < pre.length := by simpa using (Array.getElem?_eq_some_iff.1 ho).1
        have ho' : (pre ++ tl)[i0]? = some o := by rw [List.getElem?_append_left hlt]; simpa using ho
        have : i0 ∈ Region.ready .any (pre ++ tl).toArray listed := mem_ready.2 ⟨by rw [he i0 hlt]; exact q, o, by simpa using ho', fun e hem hb => by rw [he _ (Nat.lt_trans (hT.back i0 o ho' e hem hb) hlt)]; exact hall e hem hb⟩
        rw [hr] at this
        cases this
      · have hlt := hk i hi
        obtain ⟨hu, o, ho, hall⟩ := mem_ready.1 hi
        have ho : (pre ++ tl)[i]? = some o := by simpa using ho
        have hop : pre[i]? = some o := by rw [← ho, List.getElem?_append_left hlt]
        have hi' : i ∈ Region.ready .any pre.toArray listed' := mem_ready.2 ⟨by rw [← he i hlt]; exact hu, o, by simpa using hop, fun e hem hb => by rw [← he _ (Nat.lt_trans (hT.back i o ho e hem hb) hlt)]; exact hall e hem hb⟩
        have hq := h1 i hi'
        have hw : ∀ (ops : Array Oper), Region.wanted o (yielded ops a.tmps) = true := fun ops => by unfold Region.wanted; rw [hT.guard i o ho]
        unfold qOp at hq
        simp only [List.getElem?_toArray, hop, hw, if_true] at hq
        unfold wpOp
        simp only [List.getElem?_toArray, ho, hw, if_true]
        refine .inl (Oper.wp_of_quiet hC (fun a' w' hC' h' => ?_) hq)
        refine ih (listed.setIfInBounds i true) (listed'.setIfInBounds i true) a' w' h' hC' (by simpa using hz) (by simpa using hz') (fun j hj d => ?_) (fun j hj hjs => ?_) (fun j oj hoj hlj e hem hb => ?_)
        · by_cases e : i = j
          · subst e
            simp [show i < listed.size by simp at hz ⊢; omega, show i < listed'.size by omega]
          · rw [getD_set_ne d e, getD_set_ne d e]
            exact he j hj d
        · rw [getD_set_ne true (by omega)]
          exact hun j hj (by simpa using hjs)
        · by_cases e' : i = j
          · subst e'
            rw [hop] at hoj
            cases hoj
            exact getD_set_true ((he _ (Nat.lt_trans (hT.back i o ho e hem hb) hlt) false).symm.trans (hall e hem hb))
          · rw [getD_set_ne false e'] at hlj
            exact getD_set_true (hcl j oj hoj hlj e hem hb)
theorem wp_region_tail {id : Nat} {a : Act} {w : World} (pre tl : List Oper) {l : Array Oper} (hl : l = (pre ++ tl).toArray) (hm : P.follows .mixedOrders = true) (hB : Region.lexB .any pre.toArray = true) (hT : tailBL pre tl = true) (htl : tl ≠ [])
    (h : wpQuiet P pre.toArray (fun w' => ∃ p : Beh w, w' = p.w) (fun a' => ∀ w', (∃ p : Beh w, w' = p.w) → wpList P (pre ++ tl).toArray Q tl a' w') pre a) : (Code.region id l true).wp P Q a w := by
  subst hl
  refine wp_region_any hm ?_
  have hT := tailOkL hT
  simp only [Region.lexB, Bool.and_eq_true] at hB
  have hq := wpAnyQ_lex (C := fun w' => ∃ p : Beh w, w' = p.w) (md := .any) hB.1 pre 0 (Array.replicate pre.length false) a (by simp) (by simpa using hB.2) h
  have := tailL_sim (Q := Q) hT htl pre.length (Array.replicate (pre ++ tl).length false) (Array.replicate pre.length false) a { w with drawn := w.drawn + 1 } hq ⟨⟨_, (Below.refl _ w).drew⟩, rfl⟩ (by simp) (by simp)
    (fun i hi d => by simp only [Array.getD_eq_getD_getElem?]; rw [Array.getElem?_replicate, Array.getElem?_replicate, if_pos hi, if_pos (by simp; omega)])
    (fun i hi hs => by simp only [Array.getD_eq_getD_getElem?]; rw [Array.getElem?_replicate, if_pos (by simpa using hs)]; rfl)
    (fun i o ho hl => by simp only [Array.getD_eq_getD_getElem?] at hl; rw [Array.getElem?_replicate] at hl; split at hl <;> cases hl)
  simpa using this
theorem wp_region_last {id : Nat} {a : Act} {w : World} {l pre tl : List Oper} (k : Nat) (hp : l.take k = pre) (ht : l.drop k = tl) (hm : P.follows .mixedOrders = true) (hB : Region.lexB .any pre.toArray = true) (hT : tailBL pre tl = true) (htl : tl ≠ [])
    (h : wpQuiet P pre.toArray (fun w' => ∃ p : Beh w, w' = p.w) (fun a' => ∀ w', (∃ p : Beh w, w' = p.w) → wpList P (pre ++ tl).toArray Q tl a' w') pre a) : (Code.region id l.toArray true).wp P Q a w :=
  wp_region_tail pre tl (by rw [← hp, ← ht, List.take_append_drop]) hm hB hT htl h
end
end Go.Proofs.YthomddbekiknjaaGreat
/- what slices.Delete and slices.Insert of one element want, whatever the elements -/
namespace Go.Proofs.YthomddbekiknjaaGreat
open Go.RowKit
set_option linter.unusedVariables false
set_option linter.unusedSimpArgs false
set_option linter.unusedSectionVars false

theorem grown_tr {w w' w'' : World} {r : Option Nat} (h : w.grownBy w' r) (k : w'.grownBy w'' r) : w.grownBy w'' r :=
  ⟨k.os.trans h.os, k.tape.trans h.tape, k.output.trans h.output, Nat.le_trans h.size k.size, fun i hi hne => (k.block i (Nat.lt_of_lt_of_le hi h.size) hne).trans (h.block i hi hne)⟩
theorem grown_refl (w : World) (r : Option Nat) : w.grownBy w r := ⟨rfl, rfl, rfl, Nat.le_refl _, fun _ _ _ => rfl⟩
theorem grown_of {w w' : World} (h : Below w.heap.size w w') (r : Option Nat) : w.grownBy w' r := ⟨h.os, h.tape, h.output, h.size, fun i hi _ => h.block i hi⟩
theorem wpList_copyK {P : Program} {ops : Array Oper} {rest : List Oper} {o : Oper} {a : Act} {Q : Exit → Act → World → Prop} {w w' : World} {v vd vs : Value} (hgd : o.guard = none) (d s : Operand) (t : TypeId)
    (ho : o.op = .call { callee := .builtin .copy, args := #[d, s], argTypes := #[t, t] }) (hd : a.eval d = vd) (hs : a.eval s = vs) (hr : (Builtin.copy_ #[t, t] o.type #[vd, vs]).run P w = .ok v w') (h : wpList P ops Q rest (a.put o.dst v) w') : wpList P ops Q (o :: rest) a w :=
  wpList_plain hgd fun _ hK => wp_copy_runK ho (by rw [hd, hs]; exact hr) (hK _ _ h)
theorem step_copyK {P : Program} {ops : Array Oper} {o : Oper} {a : Act} {K : Act → World → Prop} {Q : Exit → Act → World → Prop} {E : Prop} {w w' : World} {v vd vs : Value} (hgd : o.guard = none) (d s : Operand) (t : TypeId)
    (ho : o.op = .call { callee := .builtin .copy, args := #[d, s], argTypes := #[t, t] }) (hd : a.eval d = vd) (hs : a.eval s = vs) (hr : (Builtin.copy_ #[t, t] o.type #[vd, vs]).run P w = .ok v w') (h : K (a.put o.dst v) w') :
    if Region.wanted o (yielded ops a.tmps) = true then Oper.wp P o a w K Q else E := by
  have hw : Region.wanted o (yielded ops a.tmps) = true := by simp [Region.wanted, hgd]
  rw [if_pos hw]
  exact wp_copy_runK ho (by rw [hd, hs]; exact hr) h
namespace RowKind
section
variable {α : Type} [Inhabited α] {R : RowKind α}
/-- room for k more, where there is none: a row is made, with the first i of the old -/
theorem run_growZ {w : World} {B : Nat} {g n cap i k : Nat} {xs : List α} (h : R.Own B w (.slice (some ⟨g, 0, none⟩) n cap) xs) (hi : i ≤ xs.length) (h0 : 0 < k) (hg : cap < i + k) (hl : i + k ≤ 1000000) {m : Nat} (hmm : m = i + k) (tn : TypeId) (kn : IntKind) (htn : Tryz.prog.underlying tn = some (.int kn)) (ty : TypeId) :
    ∃ cp cur w', (Builtin.append_ #[R.tS, tn] ty #[.slice (some ⟨g, 0, none⟩) i cap, .int .i64 (k : Int)]).run Tryz.prog w = .ok (.slice (some ⟨w.heap.size, 0, none⟩) m cp) w' ∧ w'.heap[w.heap.size]? = some (.cells cur R.tE (0, 0)) ∧ cur.size = cp * R.k ∧ m ≤ cp ∧ cp ≤ maxLen ∧ (∀ t, t < i * R.k → cur[t]? = (R.cells xs)[t]?) ∧ Below w.heap.size w w' ∧ w.heap.size < w'.heap.size := by
  subst hmm
  obtain ⟨i0, hi0, hz0, hz1, hz2⟩ := info_parts R.info
  have hF := h.front hi
  obtain ⟨cur0, hg0, hn0, hB0, hc0, hm0, hs0, ht0⟩ := hF.row
  have lt : (xs.take i).length = i := by rw [List.length_take]; omega
  have hcl : ∀ j u, (R.cells (xs.take i))[j]? = some u → w.drew.cell? ((⟨g, 0, none⟩ : Addr).add j) = some u := fun j u hu => by
    rw [Addr.add_lit, Nat.zero_add]
    rw [← ht0, List.getElem?_take] at hu
    split at hu
    · show w.cell? ⟨g, j, none⟩ = _
      unfold World.cell?
      simp only [hg0]
      rwa [Array.getElem?_toList] at hu
    · cases hu
  have hold := run_firstCells_some (P := Tryz.prog) (w := w.drew) i0.size i ⟨g, 0, none⟩ i cap (R.cells (xs.take i)) (by rw [R.cells_len, lt, hz1]) hcl
  have hby : (i + k) * i0.bytes ≤ 140737488355328 := by rw [hz2]; exact byt_ok hl
  have hrun := Lib.run_append_grow_zeros (P := Tryz.prog) w R.tS tn ty R.tE i0 R.zero .i64 kn R.under htn hi0 hz0 (some ⟨g, 0, none⟩) i cap (R.cells (xs.take i)) hold k h0 (by rw [hz1]; exact R.k0) hg (by omega)
    (by have : k * i0.bytes ≤ (i + k) * i0.bytes := Nat.mul_le_mul_right _ (by omega)
        omega) (growslice_fits hg hby)
  have hge := grownCap_ge w (i + k) cap R.tE
  have hle := grownCap_le_maxLen w (i + k) cap R.tE (by unfold maxLen; omega)
  refine ⟨_, _, _, hrun, heap_alloc_new w.drew _, ?_, hge, hle, fun t ht => ?_, ((Below.refl w.heap.size w).drew.alloc (Nat.le_refl _) _), by simp⟩
  · rw [Array.size_append, Array.size_append, size_zeroCells, size_zeroCells, R.zlen, List.size_toArray, R.cells_len, lt, ← Nat.add_mul, ← Nat.add_mul]
    refine congrArg (fun z => z * R.k) ?_
    omega
  · have e1 : R.cells xs = R.cells (xs.take i) ++ R.cells (xs.drop i) := by rw [← R.cells_append, List.take_append_drop]
    have l1 : (R.cells (xs.take i)).length = i * R.k := by rw [R.cells_len, lt]
    rw [e1, List.getElem?_append_left (by omega), Array.append_assoc, Array.getElem?_append_left (by simp; omega)]
    simp
end
end RowKind
theorem shape_boxed {w : World} {b : Nat} {c : Array Value} {t : TypeId} (h : Boxed w b c t) : w.shape? b = some (t, c.size) := by
  unfold World.shape?
  rw [h]
end Go.Proofs.YthomddbekiknjaaGreat
/- slices.Delete of one element, in a row of the call's own: slots -/
namespace Go.Proofs.YthomddbekiknjaaGreat
open Go.RowKit
set_option linter.unusedVariables false
set_option linter.unusedSimpArgs false

set_option maxRecDepth 100000 in
set_option maxHeartbeats 16000000 in
theorem pdelS_any (xs : List SW) (g cap i B : Nat) (w : World) (h : RSl.Own B w (.slice (some ⟨g, 0, none⟩) xs.length cap) xs) (hi : i < xs.length) (hl : xs.length ≤ 900000) (hB : B ≤ w.heap.size) : Calls Tryz.prog 53 #[.slice (some ⟨g, 0, none⟩) xs.length cap, .int .i64 (i : Int), .int .i64 ((i + 1 : Nat) : Int)] w (fun e w' => e = .returned (.slice (some ⟨g, 0, none⟩) (xs.length - 1) cap) ∧ RSl.Own B w' (.slice (some ⟨g, 0, none⟩) (xs.length - 1) cap) (xs.eraseIdx i) ∧ w.grownBy w' (some g)) := by
  obtain ⟨cur, hg, hn, hBg, hc, hm, hs, ht⟩ := h.row
  have HFr := Lib.hid (h.front (i := i) (by omega))
  have HAp : Hid (∀ (W : World) (ad : Addr) (m c : Nat), W.heap[g]? = w.heap[g]? → (i + 1 < xs.length → ad = ⟨g, (i + 1) * 10, none⟩) → m = xs.length - (i + 1) → RSl.App W (.slice (some ad) m c) (xs.drop (i + 1))) := fun W ad m c hW had hm => h.appFrom (by omega) hW had hm
  have HEq : Hid (xs.take i ++ xs.drop (i + 1) = xs.eraseIdx i) := (List.eraseIdx_eq_take_drop_succ _ _).symm
  have HLt : Hid ((xs.take i).length = i) := by rw [Hid, List.length_take]; omega
  have HLd : Hid ((xs.drop (i + 1)).length = xs.length - (i + 1)) := by rw [Hid, List.length_drop]
  have HLe : Hid ((xs.eraseIdx i).length = xs.length - 1) := by rw [Hid, List.length_eraseIdx, if_pos hi]
  generalize xs.drop (i + 1) = yd at *
  generalize xs.take i = yt at *
  generalize xs.eraseIdx i = ye at *
  generalize xs.length = n at *
  have i1 : (i : Int) ≤ ((i + 1 : Nat) : Int) := by omega
  have i2 : ((i + 1 : Nat) : Int) ≤ (n : Int) := by omega
  have i3 : (n : Int) ≤ (cap : Int) := by omega
  have i4 : ((i : Int) == ((i + 1 : Nat) : Int)) = false := by simp; omega
  have i5 : (i : Int) ≤ (cap : Int) := by omega
  have i6 : i + 1 ≤ n := by omega
  have i7 : n ≤ cap := by omega
  have i8 : i ≤ cap := by omega
  have i9 : i ≤ i + 1 := by omega
  have j0 : 0 ≤ (i : Int) + 1 := by omega
  have j1 : (i : Int) + 1 ≤ (n : Int) := by omega
  have j2 : ((i : Int) + 1).toNat = i + 1 := by omega
  have HRm : Hid (yt.length + yd.length ≤ cap) := by rw [Hid, HLt.out, HLd.out]; omega
  have HBy : Hid ((yt.length + yd.length) * RSl.bytes ≤ 140737488355328) := by
    have : RSl.bytes = 120 := rfl
    rw [Hid, HLt.out, HLd.out, this]; omega
  clear h hg hm hs ht hn
  go_enter Tryz.func53, Tryz.ntmps53
  obtain ⟨pv, hpv⟩ : ∃ pv : Option Addr, (if cap = i + 1 then some (⟨g, 0, none⟩ : Addr) else some ⟨g, (i + 1) * 10, none⟩) = pv := ⟨_, rfl⟩
  have HS2 : Hid (RSl.App w.drew (.slice pv (n - (i + 1)) (cap - (i + 1))) yd) := by
    rw [← hpv]
    by_cases hcc : cap = i + 1
    · rw [if_pos hcc]
      exact HAp.out _ _ _ _ rfl (fun q => absurd q (by omega)) rfl
    · rw [if_neg hcc]
      exact HAp.out _ _ _ _ rfl (fun _ => rfl) rfl
  obtain ⟨n1, hn1⟩ : ∃ n1, n1 + 1 = n := ⟨n - 1, by omega⟩
  have HM : Hid (n1 = i + yd.length) := by rw [Hid, HLd.out]; omega
  have HN1 := Lib.hid hn1
  have k1 : (n1 : Int) ≤ (n : Int) := by omega
  have k2 : ¬ cap = n1 := by omega
  have k3 : n1 ≤ n := by omega
  have k4 : n1 ≤ cap := by omega
  have HCl : Hid (ye.length + (0 + 1) ≤ cap) := by rw [Hid, HLe.out]; omega
  have HOf : Hid (n1 * 10 = ye.length * RSl.k) := by rw [Hid, HLe.out]; show n1 * 10 = (n - 1) * 10; omega
  have HLl : Hid (n - n1 = 0 + 1) := by rw [Hid]; omega
  clear hn1 HAp HLd HLe hi hl
  go_upto_region 5 with (fail)
  go_region_law (refine RowKind.Own.roomR (R := RSl) (xs := yt) (ys := yd) (cap := cap) (g := g) (m := n1) (by decide) rfl _ _ rfl HLt.out.symm HM.out HFr.out.drew rfl rfl HS2.out HBy.out hB HRm.out ?_; intro w9 hO9 hG9)
  all_goals
    try simp only [List.getElem_toArray, List.getElem_cons_succ, List.getElem_cons_zero, Act.put, List.setIfInBounds_toArray, List.set_cons_zero, List.set_cons_succ]
    rw [HEq.out] at hO9
    have HO9 := Lib.hid hO9
    have HG9 : Hid (w.grownBy w9 (some g)) := grown_tr (grown_of (Below.refl _ _).drew (some g)) hG9
    clear hO9 hG9 HFr HS2
    go_wp2_with (refine RowKind.Own.clearB (R := RSl) (m := 0) HO9.out (fun _ => by kernel_rfl) (by decide) HCl.out HOf.out HLl.out rfl _ rfl rfl ?_; intro w10 hO10 hG10; have HO10 := Lib.hid hO10; have HG10 := Lib.hid (grown_tr HG9.out hG10); clear hO10 hG10)
    go_returns
    exact ⟨by rw [← HN1.out]; rfl, by have q := HO10.out; rw [← HN1.out]; exact q, HG10.out⟩
end Go.Proofs.YthomddbekiknjaaGreat
