/- a region that draws its order, all of whose operations only read, but that one box is made (at whatever moment) and filled at the end: one walk in the order of the text serves every order -/
import Derived.Test.YtdgnblkoohakeaaBoxG
import Derived.Test.YtdgnblkoohakeaaBase
import Derived.Deep.QuietTactic
import Derived.BigQuiet
import Derived.Deep.RegionWith
namespace Go.Proofs.Ytdgnblkoohakeaa
open Go.RowKit
set_option linter.unusedVariables false
set_option linter.unusedSimpArgs false

/-- the region with the making and the use of the box struck out -/
def flo (l : List Oper) (ka ks : Nat) (oa os : Oper) (us : Value) : List Oper :=
  (l.set ka ⟨oa.dst, .assign (.const undef), oa.type, oa.pos, oa.after, none⟩).set ks ⟨os.dst, .assign (.const us), os.type, os.pos, os.after, none⟩
/-- an operation waits for all that writes one of these slots -/
def waitsB (l : List Oper) (o : Oper) (ts : List Nat) : Bool :=
  ts.all fun t => (List.range l.length).all fun j => match l[j]? with
    | none => true
    | some oj => oj.dst != some t || o.after.any (fun e => Region.binds .any e && decide (e.on = j))
/-- what is asked of such a region -/
def floB (l : List Oper) (ka ks d : Nat) (oa os : Oper) (ta ts : List Nat) : Bool :=
  decide (ka ≠ ks) && (!ta.contains d && (!ts.contains d && (waitsB l oa ta && (waitsB l os ts && (os.after.any (fun e => Region.binds .any e && decide (e.on = ka)) &&
  ((List.range l.length).all fun i => match l[i]? with
    | none => true
    | some o =>
      ((decide (i = ks) || !(o.looksAt l.toArray).contains d) &&
      ((decide (i = ka) || o.dst != some d) &&
      (o.after.all fun e => !Region.binds .any e || decide (e.on < i)))) &&
      ((List.range l.length).all fun j => decide (j = i) || (match l[j]? with
        | none => true
        | some oj => (match o.dst with
          | none => true
          | some e => oj.dst != some e)))))))))
theorem waitsB_spec {l : List Oper} {o : Oper} {ts : List Nat} (h : waitsB l o ts = true) : ∀ t ∈ ts, ∀ (j : Nat) (oj : Oper), l[j]? = some oj → oj.dst = some t → ∃ e ∈ o.after, Region.binds .any e = true ∧ e.on = j := fun t ht j oj hj hjt => by
  have hjl : j < l.length := (List.getElem?_eq_some_iff.1 hj).1
  have q := List.all_eq_true.1 (List.all_eq_true.1 h t ht) j (List.mem_range.2 hjl)
  simp only [hj] at q
  rw [hjt] at q
  simp only [bne_self_eq_false, Bool.false_or] at q
  obtain ⟨e, he, hq⟩ := Array.any_eq_true'.1 q
  rw [Bool.and_eq_true, decide_eq_true_eq] at hq
  exact ⟨e, he, hq.1, hq.2⟩
theorem put_put (a : Act) (d : Nat) (u v : Value) : (a.put (some d) u).put (some d) v = a.put (some d) v := by
  simp [Act.put]
theorem put_size (a : Act) (d : Option Tmp) (v : Value) : (a.put d v).tmps.size = a.tmps.size := by
  cases d <;> simp [Act.put]
theorem put_get_ne {a : Act} {d : Nat} {o : Option Tmp} {v : Value} (h : o ≠ some d) : (a.put o v).tmps[d]? = a.tmps[d]? := by
  cases o with
  | none => rfl
  | some e =>
    have : e ≠ d := fun q => h (by rw [q])
    simp [Act.put, Array.getElem?_setIfInBounds_ne this]
theorem put_same {a : Act} {o : Option Tmp} {u v : Value} (h : ∀ d, o = some d → (a.put o u).tmps[d]? = (a.put o v).tmps[d]?) : a.put o u = a.put o v := by
  cases o with
  | none => rfl
  | some d =>
    have h := h d rfl
    by_cases hd : d < a.tmps.size
    · simp [Act.put, hd] at h
      rw [h]
    · simp [Act.put, Array.setIfInBounds, hd]
/-- a slot that no operation to come writes holds what it holds at the end -/
theorem pinned {P : Program} {ops : Array Oper} {C : World → Prop} {fin : Act} : ∀ (fuel : Nat) (listed : Array Bool) (a : Act), wpAnyQ P .any ops C (fun a' => a' = fin) fuel listed a →
    ∀ d, (∀ i o, ops[i]? = some o → listed.getD i true = false → o.dst ≠ some d) → a.tmps[d]? = fin.tmps[d]?
  | 0, _, _, h, _, _ => by rw [h.2]
  | fuel + 1, listed, a, h, d, hd => by
    cases hr : Region.ready .any ops listed with
    | nil => rw [h.1 hr]
    | cons i r =>
      have hi : i ∈ Region.ready .any ops listed := by rw [hr]; exact List.mem_cons_self
      have hq := h.2 i hi
      obtain ⟨hun, o, ho, _⟩ := mem_ready.1 hi
      have hne := hd i o ho hun
      have hd' : ∀ j oj, ops[j]? = some oj → (listed.setIfInBounds i true).getD j true = false → oj.dst ≠ some d := fun j oj hj hu => by
        by_cases e : i = j
        · subst e
          rw [ho] at hj
          obtain rfl := Option.some.inj hj
          exact hne
        · rw [getD_set_ne true e] at hu
          exact hd j oj hj hu
      unfold qOp at hq
      simp only [ho] at hq
      split at hq
      · obtain ⟨v, _, hK⟩ := hq
        rw [← pinned fuel _ _ hK d hd', put_get_ne hne]
      · rw [← pinned fuel _ _ hq d hd', put_get_ne hne]
theorem ready_congr {md : Region.Mode} {ops ops' : Array Oper} (hs : ops.size = ops'.size) (h : ∀ i : Nat, (ops[i]?).map (Oper.after) = (ops'[i]?).map (Oper.after)) (listed : Array Bool) : Region.ready md ops listed = Region.ready md ops' listed := by
  unfold Region.ready
  rw [hs]
  refine List.filter_congr fun i _ => ?_
  have := h i
  cases h1 : ops[i]? <;> cases h2 : ops'[i]? <;> simp [h1, h2] at this ⊢
  rw [this]
theorem ready_none {md : Region.Mode} {ops : Array Oper} {listed : Array Bool} (hz : listed.size = ops.size) (ha : ∀ i o, ops[i]? = some o → ∀ e ∈ o.after, Region.binds md e = true → e.on < i) (h : Region.ready md ops listed = []) : ∀ i, i < ops.size → listed.getD i false = true := by
  intro i
  induction i using Nat.strongRecOn with
  | _ i ih =>
    intro hi
    cases hl : listed.getD i true with
    | true =>
      have hlt : i < listed.size := by omega
      simp [Array.getElem?_eq_getElem hlt] at hl ⊢
      exact hl
    | false =>
      have : i ∈ Region.ready md ops listed := mem_ready.2 ⟨hl, ops[i], Array.getElem?_eq_getElem hi, fun e he hb => by
        have := ha i _ (Array.getElem?_eq_getElem hi) e he hb
        exact ih e.on this (by omega)⟩
      rw [h] at this
      cases this
/-- w' is a world behind w in which all that was is as it was; where it is asked, draws are counted on -/
def Rel (m : Bool) (W w : World) : Prop := Below W.heap.size W w ∧ (m = true → W.drawn ≤ w.drawn)
theorem Rel.refl (m : Bool) (w : World) : Rel m w w := ⟨Below.refl _ _, fun _ => Nat.le_refl _⟩
theorem Rel.trans {m : Bool} {a b c : World} (h : Rel m a b) (k : Rel m b c) : Rel m a c := ⟨bstep h.1 k.1 h.1.size, fun e => Nat.le_trans (h.2 e) (k.2 e)⟩
theorem Rel.drew {m : Bool} {a b : World} (h : Rel m a b) : Rel m a b.drew := ⟨h.1.drew, fun e => Nat.le_trans (h.2 e) (Nat.le_succ _)⟩
/-- such a world -/
structure Bd (m : Bool) (W : World) where
  w : World
  h : Rel m W w
instance (m : Bool) (W : World) : Nonempty (Bd m W) := ⟨⟨W, Rel.refl _ _⟩⟩
theorem Calls.bd {P : Program} {f : FuncId} {args : Array Value} {W : World} {p : Bd false W} {v : Value} (h : Calls P f args p.w (Ret v p.w)) : Calls P f args p.w fun e w'' => e = .returned v ∧ ∃ q : Bd false W, w'' = q.w :=
  h.mono fun _ w' ⟨he, hb⟩ => ⟨he, ⟨w', p.h.trans ⟨hb, fun e => by cases e⟩⟩, rfl⟩
theorem Calls.bdm {P : Program} {f : FuncId} {args : Array Value} {m : Bool} {W : World} {p : Bd m W} {v : Value} (h : Calls P f args p.w fun e w'' => e = .returned v ∧ Rel m p.w w'') : Calls P f args p.w fun e w'' => e = .returned v ∧ ∃ q : Bd m W, w'' = q.w :=
  h.mono fun _ w' ⟨he, hb⟩ => ⟨he, ⟨w', p.h.trans hb⟩, rfl⟩
theorem bd_cell {m : Bool} {W : World} {a : Addr} {v : Value} (h : W.cell? a = some v) (p : Bd m W) : p.w.cell? a = some v := (p.h.1.cell (World.block_lt_of_cell? _ _ h)).trans h
theorem bd_row {m : Bool} {W : World} {b : Nat} {c : Array Value} (h : rowOf W b = some c) (p : Bd m W) : rowOf p.w b = some c := rowOf_below h p.h.1 (rowOf_lt h)
section
variable {P : Program} {Q : Exit → Act → World → Prop} {W : World} {ops ops' : Array Oper} {ka ks d : Nat} {oa os : Oper} {ta ts : List Nat} {pv : Nat → Value} {us : Value} {B1 B2 : Nat → World → Prop} {fin : Act} {m : Bool}
/-- what holds of the box: not yet made; made; used -/
def Ph (W : World) (ka ks d : Nat) (pv : Nat → Value) (B1 B2 : Nat → World → Prop) (listed : Array Bool) (a c : Act) (w : World) : Prop :=
  (listed.getD ka true = false ∧ listed.getD ks true = false ∧ c = a) ∨
  (listed.getD ka false = true ∧ listed.getD ks true = false ∧ ∃ b, W.heap.size ≤ b ∧ c = a.put (some d) (pv b) ∧ B1 b w) ∨
  (listed.getD ka false = true ∧ listed.getD ks false = true ∧ ∃ b, W.heap.size ≤ b ∧ c = a.put (some d) (pv b) ∧ B2 b w)
theorem flo_sim (hsz : ops.size = ops'.size) (haf : ∀ i : Nat, (ops[i]?).map (Oper.after) = (ops'[i]?).map (Oper.after)) (hdst : ∀ i : Nat, (ops[i]?).bind (Oper.dst) = (ops'[i]?).bind (Oper.dst)) (hsame : ∀ i, i ≠ ka → i ≠ ks → ops[i]? = ops'[i]?)
    (hka : ops[ka]? = some oa) (hks : ops[ks]? = some os) (hga : oa.guard = none) (hgs : os.guard = none) (hdd : oa.dst = some d)
    (hka' : ops'[ka]? = some ⟨oa.dst, .assign (.const undef), oa.type, oa.pos, oa.after, none⟩) (hks' : ops'[ks]? = some ⟨os.dst, .assign (.const us), os.type, os.pos, os.after, none⟩)
    (hne : ka ≠ ks) (htd : d ∉ ta) (hsd : d ∉ ts) (hlook : ∀ i o, ops'[i]? = some o → i ≠ ks → d ∉ o.looksAt ops') (hother : ∀ i o, ops'[i]? = some o → i ≠ ka → o.dst ≠ some d)
    (hafter : ∀ i o, ops'[i]? = some o → ∀ e ∈ o.after, Region.binds .any e = true → e.on < i)
    (hksa : ∃ e ∈ os.after, Region.binds .any e = true ∧ e.on = ka) (hkat : ∀ t ∈ ta, ∀ (j : Nat) (oj : Oper), ops'[j]? = some oj → oj.dst = some t → ∃ e ∈ oa.after, Region.binds .any e = true ∧ e.on = j) (hkst : ∀ t ∈ ts, ∀ (j : Nat) (oj : Oper), ops'[j]? = some oj → oj.dst = some t → ∃ e ∈ os.after, Region.binds .any e = true ∧ e.on = j)
    (hdist : ∀ (i : Nat) (o : Oper) (j : Nat) (oj : Oper), ops'[i]? = some o → ops'[j]? = some oj → j ≠ i → ∀ e, o.dst = some e → oj.dst ≠ some e)
    (hsel : ∀ (j : Nat) (o : Oper) cs b, ops'[j]? = some o → o.op ≠ .select cs b)
    (hst1 : ∀ b w w', B1 b w → Below w.heap.size w w' → B1 b w') (hst2 : ∀ b w w', B2 b w → Below w.heap.size w w' → B2 b w')
    (ha : ∀ (ρ : Operand → Value) w, (∀ t ∈ ta, ρ (.tmp t) = fin.eval (.tmp t)) → ∃ w', (execOp ρ oa).run P w = .ok (.value (pv w.heap.size)) w' ∧ Rel m w w' ∧ B1 w.heap.size w')
    (hs : ∀ (c : Act) w b (K : Act → World → Prop), W.heap.size ≤ b → Rel m W w → B1 b w → c.eval (.tmp d) = pv b → (∀ t ∈ ts, c.eval (.tmp t) = fin.eval (.tmp t)) → (∀ w', Rel m W w' → B2 b w' → K (c.put os.dst us) w') → os.wp P c w K Q)
    (hQ : ∀ b w', W.heap.size ≤ b → Rel m W w' → B2 b w' → Q .normal (fin.put (some d) (pv b)) w') :
    ∀ (fuel : Nat) (listed : Array Bool) (a c : Act) (w : World), listed.size = ops.size → d < a.tmps.size → Rel m W w → Ph W ka ks d pv B1 B2 listed a c w →
      (∀ V, Rel m W V → wpAnyQ P .any ops' (fun u => ∃ p : Bd m V, u = p.w) (fun a' => a' = fin) fuel listed a) → wpAny P .any ops Q fuel listed c w := by
  have hrd : ∀ listed, Region.ready .any ops listed = Region.ready .any ops' listed := ready_congr hsz haf
  have hyl : ∀ tmps, yielded ops tmps = yielded ops' tmps := fun tmps => funext fun j => by
    have h := hdst j
    have h : ((ops[j]?).bind fun x => x.dst) = ((ops'[j]?).bind fun x => x.dst) := h
    unfold yielded
    rw [h]
  have hkal : ka < ops.size := (Array.getElem?_eq_some_iff.1 hka).1
  have hksl : ks < ops.size := (Array.getElem?_eq_some_iff.1 hks).1
  have hend : ∀ (listed : Array Bool) (c : Act) (w : World), listed.size = ops.size → Rel m W w → Ph W ka ks d pv B1 B2 listed fin c w → Region.ready .any ops' listed = [] → Q .normal c w := fun listed c w hz hB hP hr => by
    have hall := ready_none (by rw [hz, hsz]) hafter hr
    have h1 := hall ka (by omega)
    have h2 := hall ks (by omega)
    have q1 : listed.getD ka true = true := by
      have : ka < listed.size := by omega
      simp [Array.getElem?_eq_getElem this] at h1 ⊢
      exact h1
    have q2 : listed.getD ks true = true := by
      have : ks < listed.size := by omega
      simp [Array.getElem?_eq_getElem this] at h2 ⊢
      exact h2
    rcases hP with ⟨q, _⟩ | ⟨_, q, _⟩ | ⟨_, _, b, hb, rfl, hrow⟩
    · rw [q1] at q; cases q
    · rw [q2] at q; cases q
    · exact hQ b w hb hB hrow
  intro fuel
  induction fuel with
  | zero =>
    intro listed a c w hz hd hB hP H
    have h := H w hB
    obtain ⟨h1, h2⟩ := h
    subst h2
    exact ⟨by rw [hrd]; exact h1, hend listed c w hz hB hP h1⟩
  | succ fuel ih =>
    intro listed a c w hz hd hB hP H
    refine ⟨fun hr => ?_, fun i hi => ?_⟩
    · rw [hrd] at hr
      have h := (H w hB).1 hr
      subst h
      exact hend listed c w hz hB hP hr
    · rw [hrd] at hi
      obtain ⟨hun, o, ho, hdep⟩ := mem_ready.1 hi
      have hil : i < listed.size := by
        by_cases q : i < listed.size
        · exact q
        · rw [Array.getD_eq_getD_getElem?, Array.getElem?_eq_none (by omega)] at hun
          cases hun
      have hset : (listed.setIfInBounds i true).getD i false = true := by simp [hil]
      have hz' : (listed.setIfInBounds i true).size = ops.size := by simp [hz]
      by_cases e1 : i = ka
      · subst e1
        rw [hka'] at ho
        obtain rfl := Option.some.inj ho
        -- the box is made
        obtain ⟨hks0, rfl⟩ : listed.getD ks true = false ∧ c = a := by
          rcases hP with ⟨_, h⟩ | ⟨h, _⟩ | ⟨h, _⟩
          · exact h
          · simp [Array.getElem?_eq_getElem hil] at hun h
            rw [hun] at h; cases h
          · simp [Array.getElem?_eq_getElem hil] at hun h
            rw [hun] at h; cases h
        have hag : ∀ t ∈ ta, c.eval (.tmp t) = fin.eval (.tmp t) := fun t ht => by
          have q : c.tmps[t]? = fin.tmps[t]? := pinned _ _ _ (H w hB) t fun j oj hj hju hjt => by
            obtain ⟨e, he, hbd, hon⟩ := hkat t ht j oj hj hjt
            have := hdep e he hbd
            rw [hon] at this
            have hjl : j < listed.size := by rw [hz, hsz]; exact (Array.getElem?_eq_some_iff.1 hj).1
            simp [Array.getElem?_eq_getElem hjl] at this hju
            rw [this] at hju; cases hju
          show c.tmps.getD t undef = fin.tmps.getD t undef
          rw [Array.getD_eq_getD_getElem?, Array.getD_eq_getD_getElem?, q]
        obtain ⟨w', hr, hb', hB1⟩ := ha c.eval w hag
        unfold wpOp
        simp only [hka]
        rw [if_pos (by simp [Region.wanted, hga])]
        refine .inl ?_
        unfold Oper.wp
        rw [hr, Oper.upon_value, hdd]
        have hB' : Rel m W w' := hB.trans hb'
        refine ih _ (c.put (some d) undef) _ _ hz' (by rw [put_size]; exact hd) hB' (.inr (.inl ⟨hset, by rw [getD_set_ne true hne]; exact hks0, w.heap.size, hB.1.size, by rw [put_put], hB1⟩)) fun V hV => ?_
        have hq := (H V hV).2 i hi
        unfold qOp at hq
        simp only [hka'] at hq
        rw [if_pos (by simp [Region.wanted])] at hq
        obtain ⟨v, h1, hK⟩ := hq
        have h1 := h1 V ⟨⟨V, Rel.refl _ _⟩, rfl⟩
        simp only [Oper.quietAt, execOp, Act.eval, Sem.run_pure, Oper.quietUpon] at h1
        rw [← h1.2, hdd] at hK
        exact hK
      · by_cases e2 : i = ks
        · subst e2
          rw [hks'] at ho
          obtain rfl := Option.some.inj ho
          have hka1 : listed.getD ka false = true := by
            obtain ⟨e, he, hb, hon⟩ := hksa
            rw [← hon]
            exact hdep e he hb
          -- the box is used
          obtain ⟨b, hb, rfl, hrow⟩ : ∃ b, W.heap.size ≤ b ∧ c = a.put (some d) (pv b) ∧ B1 b w := by
            rcases hP with ⟨h, _⟩ | ⟨_, _, h⟩ | ⟨_, h, _⟩
            · have hkl : ka < listed.size := by omega
              simp [Array.getElem?_eq_getElem hkl] at hka1 h
              rw [hka1] at h; cases h
            · exact h
            · simp [Array.getElem?_eq_getElem hil] at hun h
              rw [hun] at h; cases h
          have hag : ∀ t ∈ ts, (a.put (some d) (pv b)).eval (.tmp t) = fin.eval (.tmp t) := fun t ht => by
            have q : a.tmps[t]? = fin.tmps[t]? := pinned _ _ _ (H w hB) t fun j oj hj hju hjt => by
              obtain ⟨e, he, hbd, hon⟩ := hkst t ht j oj hj hjt
              have := hdep e he hbd
              rw [hon] at this
              have hjl : j < listed.size := by rw [hz, hsz]; exact (Array.getElem?_eq_some_iff.1 hj).1
              simp [Array.getElem?_eq_getElem hjl] at this hju
              rw [this] at hju; cases hju
            show (a.put (some d) (pv b)).tmps.getD t undef = fin.tmps.getD t undef
            rw [Array.getD_eq_getD_getElem?, Array.getD_eq_getD_getElem?, put_get_ne (fun e => hsd (by rw [Option.some.inj e]; exact ht)), q]
          unfold wpOp
          simp only [hks]
          rw [if_pos (by simp [Region.wanted, hgs])]
          refine .inl (hs _ w b _ hb hB hrow (by simp [Act.eval, Act.put, hd]) hag fun w' hB' h2 => ?_)
          have hod : ∀ e, some d = some e → os.dst ≠ some e := fun e he => by cases he; exact hother i ⟨os.dst, .assign (.const us), os.type, os.pos, os.after, none⟩ hks' (Ne.symm hne)
          rw [Act.put_comm a _ us hod]
          refine ih _ (a.put os.dst us) _ _ hz' (by rw [put_size]; exact hd) hB' (.inr (.inr ⟨getD_set_true hka1, hset, b, hb, rfl, h2⟩)) fun V hV => ?_
          have hq := (H V hV).2 i hi
          unfold qOp at hq
          simp only [hks'] at hq
          rw [if_pos (by simp [Region.wanted])] at hq
          obtain ⟨v, h1, hK⟩ := hq
          have h1 := h1 V ⟨⟨V, Rel.refl _ _⟩, rfl⟩
          simp only [Oper.quietAt, execOp, Act.eval, Sem.run_pure, Oper.quietUpon] at h1
          rw [← h1.2] at hK
          exact hK
        · have hoo : ops[i]? = some o := by rw [hsame i e1 e2]; exact ho
          have hno := hother i o ho e1
          have hlk := hlook i o ho e2
          have hso : ∀ cs b, o.op ≠ .select cs b := fun cs b => hsel i o cs b ho
          -- what it does in the state with the box is what it does in that without
          have hex : execOp c.eval o = execOp a.eval o ∧ Region.wanted o (yielded ops c.tmps) = Region.wanted o (yielded ops' a.tmps) ∧ (∀ v, Ph W ka ks d pv B1 B2 (listed.setIfInBounds i true) (a.put o.dst v) (c.put o.dst v) w) := by
            have hl1 : (listed.setIfInBounds i true).getD ka true = listed.getD ka true := getD_set_ne true e1
            have hl2 : (listed.setIfInBounds i true).getD ks true = listed.getD ks true := getD_set_ne true e2
            have hl3 : (listed.setIfInBounds i true).getD ka false = listed.getD ka false := getD_set_ne false e1
            have hl4 : (listed.setIfInBounds i true).getD ks false = listed.getD ks false := getD_set_ne false e2
            rw [hyl]
            have hcm : ∀ (b : Nat) (v : Value), (a.put (some d) (pv b)).put o.dst v = (a.put o.dst v).put (some d) (pv b) := fun b v =>
              Act.put_comm a _ v fun e he q => hno (by rw [q]; exact he.symm ▸ rfl)
            unfold Ph
            rw [hl1, hl2, hl3, hl4]
            rcases hP with ⟨h1, h2, rfl⟩ | ⟨h1, h2, b, hb, rfl, hrow⟩ | ⟨h1, h2, b, hb, rfl, hrow⟩
            · exact ⟨rfl, rfl, fun v => .inl ⟨h1, h2, rfl⟩⟩
            · exact ⟨execOp_put (ops := ops') o hso a (some d) _ (fun e he => by cases he; exact hlk), wanted_put o a (some d) _ (fun e he => by cases he; exact hlk), fun v => .inr (.inl ⟨h1, h2, b, hb, hcm b v, hrow⟩)⟩
            · exact ⟨execOp_put (ops := ops') o hso a (some d) _ (fun e he => by cases he; exact hlk), wanted_put o a (some d) _ (fun e he => by cases he; exact hlk), fun v => .inr (.inr ⟨h1, h2, b, hb, hcm b v, hrow⟩)⟩
          obtain ⟨hx1, hx2, hx3⟩ := hex
          have hdd : ∀ e, o.dst = some e → ∀ j oj, ops'[j]? = some oj → (listed.setIfInBounds i true).getD j true = false → oj.dst ≠ some e := fun e he j oj hj hju => by
            by_cases q : j = i
            · subst q
              have hjl : j < (listed.setIfInBounds j true).size := by simp [hil]
              simp [hil] at hju
            · exact hdist i o j oj ho hj q e he
          -- one value serves all worlds
          have hone : ∀ v, wpAnyQ P .any ops' (fun u => ∃ p : Bd m w, u = p.w) (fun a' => a' = fin) fuel (listed.setIfInBounds i true) (a.put o.dst v) → ∀ V v', wpAnyQ P .any ops' (fun u => ∃ p : Bd m V, u = p.w) (fun a' => a' = fin) fuel (listed.setIfInBounds i true) (a.put o.dst v') → a.put o.dst v' = a.put o.dst v := fun v hv V v' hv' =>
            put_same fun e he => by rw [pinned _ _ _ hv' e (hdd e he), pinned _ _ _ hv e (hdd e he)]
          have hPh : ∀ v w', Below w.heap.size w w' → Ph W ka ks d pv B1 B2 (listed.setIfInBounds i true) (a.put o.dst v) (c.put o.dst v) w' := fun v w' hb' => by
            rcases hx3 v with h | ⟨h1, h2, b, hb, he, hrow⟩ | ⟨h1, h2, b, hb, he, hrow⟩
            · exact .inl h
            · exact .inr (.inl ⟨h1, h2, b, hb, he, hst1 b _ _ hrow hb'⟩)
            · exact .inr (.inr ⟨h1, h2, b, hb, he, hst2 b _ _ hrow hb'⟩)
          have hq := (H w hB).2 i hi
          unfold qOp at hq
          simp only [ho] at hq
          unfold wpOp
          simp only [hoo, hx2]
          by_cases hw : Region.wanted o (yielded ops' a.tmps) = true
          · rw [if_pos hw] at hq ⊢
            refine .inl ?_
            obtain ⟨v, h1, hK⟩ := hq
            have h1 := h1 w ⟨⟨w, Rel.refl _ _⟩, rfl⟩
            have hall : ∀ V, Rel m W V → wpAnyQ P .any ops' (fun u => ∃ p : Bd m V, u = p.w) (fun a' => a' = fin) fuel (listed.setIfInBounds i true) (a.put o.dst v) := fun V hV => by
              have hq := (H V hV).2 i hi
              unfold qOp at hq
              simp only [ho] at hq
              rw [if_pos hw] at hq
              obtain ⟨v', _, hK'⟩ := hq
              rw [hone v hK V v' hK'] at hK'
              exact hK'
            unfold Oper.quietAt at h1
            unfold Oper.wp
            rw [hx1]
            generalize (execOp a.eval o).run P w = r at h1 ⊢
            cases r with
            | ok n w' =>
              cases n <;> simp only [Oper.quietUpon] at h1 <;> simp only [Oper.upon]
              case value u =>
                obtain ⟨rfl, rfl⟩ := h1
                exact ih _ _ _ _ hz' (by rw [put_size]; exact hd) hB (hx3 _) hall
              case skip =>
                obtain ⟨rfl, rfl⟩ := h1
                exact ih _ _ _ _ hz' (by rw [put_size]; exact hd) hB (hx3 _) hall
              case enter f args =>
                obtain ⟨rfl, hc⟩ := h1
                refine hc.mono fun e w'' ⟨he, p, hw''⟩ => ?_
                subst he
                subst hw''
                exact ih _ _ _ _ hz' (by rw [put_size]; exact hd) (hB.trans p.h) (hPh v _ p.h.1) hall
            | halt x w' => simp only [Oper.quietUpon] at h1
          · rw [if_neg hw] at hq ⊢
            refine ih _ _ _ _ hz' (by rw [put_size]; exact hd) hB (hx3 _) fun V hV => ?_
            have hq := (H V hV).2 i hi
            unfold qOp at hq
            simp only [ho] at hq
            rw [if_neg hw] at hq
            exact hq
/-- ONE WALK IN THE ORDER OF THE TEXT, over the region with the box's making and its use struck out, serves every order -/
theorem wp_region_float {id : Nat} {a : Act} {l : List Oper} (hm : P.follows .mixedOrders = true)
    (hka : l[ka]? = some oa) (hks : l[ks]? = some os) (hga : oa.guard = none) (hgs : os.guard = none) (hdd : oa.dst = some d)
    (hB : Region.lexB .any (flo l ka ks oa os us).toArray = true) (hF : floB (flo l ka ks oa os us) ka ks d oa os ta ts = true) (hd : d < a.tmps.size)
    (hst1 : ∀ b w w', B1 b w → Below w.heap.size w w' → B1 b w') (hst2 : ∀ b w w', B2 b w → Below w.heap.size w w' → B2 b w')
    (ha : ∀ (ρ : Operand → Value) w, (∀ t ∈ ta, ρ (.tmp t) = fin.eval (.tmp t)) → ∃ w', (execOp ρ oa).run P w = .ok (.value (pv w.heap.size)) w' ∧ Rel m w w' ∧ B1 w.heap.size w')
    (hs : ∀ (c : Act) w b (K : Act → World → Prop), W.heap.size ≤ b → Rel m W w → B1 b w → c.eval (.tmp d) = pv b → (∀ t ∈ ts, c.eval (.tmp t) = fin.eval (.tmp t)) → (∀ w', Rel m W w' → B2 b w' → K (c.put os.dst us) w') → os.wp P c w K Q)
    (h : ∀ V, Rel m W V → wpQuiet P (flo l ka ks oa os us).toArray (fun u => ∃ p : Bd m V, u = p.w) (fun a' => a' = fin) (flo l ka ks oa os us) a)
    (hQ : ∀ b w', W.heap.size ≤ b → Rel m W w' → B2 b w' → Q .normal (fin.put (some d) (pv b)) w') :
    (Code.region id l.toArray true).wp P Q a W := by
  have hkal : ka < l.length := (List.getElem?_eq_some_iff.1 hka).1
  have hksl : ks < l.length := (List.getElem?_eq_some_iff.1 hks).1
  have hlen : (flo l ka ks oa os us).length = l.length := by unfold flo; rw [List.length_set, List.length_set]
  have hks' : (flo l ka ks oa os us)[ks]? = some ⟨os.dst, .assign (.const us), os.type, os.pos, os.after, none⟩ := by
    unfold flo
    rw [List.getElem?_set_self (by rw [List.length_set]; exact hksl)]
  unfold floB at hF
  rw [Bool.and_eq_true, Bool.and_eq_true, Bool.and_eq_true, Bool.and_eq_true, Bool.and_eq_true, Bool.and_eq_true, decide_eq_true_eq, List.all_eq_true] at hF
  obtain ⟨hne, htd, hsd, hwa, hws, hwk, hall⟩ := hF
  have hka' : (flo l ka ks oa os us)[ka]? = some ⟨oa.dst, .assign (.const undef), oa.type, oa.pos, oa.after, none⟩ := by
    unfold flo
    rw [List.getElem?_set_ne (Ne.symm hne), List.getElem?_set_self hkal]
  have hoth : ∀ i, i ≠ ka → i ≠ ks → l[i]? = (flo l ka ks oa os us)[i]? := fun i h1 h2 => by
    unfold flo
    rw [List.getElem?_set_ne (Ne.symm h2), List.getElem?_set_ne (Ne.symm h1)]
  generalize flo l ka ks oa os us = l' at *
  have hspec : ∀ i o, l'[i]? = some o → ((decide (i = ks) || !(o.looksAt l'.toArray).contains d) = true ∧ (decide (i = ka) || o.dst != some d) = true ∧ (o.after.all fun e => !Region.binds .any e || decide (e.on < i)) = true) ∧
      ((List.range l'.length).all fun j => decide (j = i) || (match l'[j]? with
        | none => true
        | some oj => (match o.dst with
          | none => true
          | some e => oj.dst != some e))) = true := fun i o ho => by
    have hi : i < l'.length := (List.getElem?_eq_some_iff.1 ho).1
    have q := hall i (List.mem_range.2 hi)
    simp only [ho, Bool.and_eq_true] at q
    exact q
  simp only [Region.lexB, Bool.and_eq_true] at hB
  obtain ⟨hB1, hB2⟩ := hB
  have hor : ∀ i, l[i]?.map Oper.after = l'[i]?.map Oper.after ∧ l[i]?.bind Oper.dst = l'[i]?.bind Oper.dst := fun i => by
    by_cases e1 : i = ka
    · rw [e1, hka, hka']; exact ⟨rfl, rfl⟩
    · by_cases e2 : i = ks
      · rw [e2, hks, hks']; exact ⟨rfl, rfl⟩
      · rw [hoth i e1 e2]; exact ⟨rfl, rfl⟩
  refine wp_region_any hm ?_
  refine flo_sim (ops := l.toArray) (ops' := l'.toArray) (ka := ka) (ks := ks) (d := d) (oa := oa) (os := os) (ta := ta) (ts := ts) (pv := pv) (us := us) (B1 := B1) (B2 := B2) (fin := fin) (W := W)
    (by simp [hlen]) (fun i => by simpa using (hor i).1) (fun i => by simpa using (hor i).2) (fun i h1 h2 => by simpa using hoth i h1 h2) (by simpa using hka) (by simpa using hks) hga hgs hdd (by simpa using hka') (by simpa using hks') hne (by simpa using htd) (by simpa using hsd)
    (fun i o ho hi hm => ?_) (fun i o ho hi hm => ?_) (fun i o ho e he hb => ?_) ?_ (fun t ht j oj hj hjt => waitsB_spec hwa t ht j oj (by simpa using hj) hjt) (fun t ht j oj hj hjt => waitsB_spec hws t ht j oj (by simpa using hj) hjt) (fun i o j oj ho hj hij e he hje => ?_) (Region.noSelect_spec hB1) hst1 hst2 ha hs hQ _ _ a a _ (by simp) hd (Rel.refl _ _).drew (.inl ⟨by simp [hkal], by simp [hksl], rfl⟩) fun V hV => ?_
  · have q := (hspec i o (by simpa using ho)).1.1
    rw [Bool.or_eq_true, decide_eq_true_eq] at q
    rcases q with q | q
    · exact hi q
    · simp at q; exact q (by simpa using hm)
  · have q := (hspec i o (by simpa using ho)).1.2.1
    rw [Bool.or_eq_true, decide_eq_true_eq] at q
    rcases q with q | q
    · exact hi q
    · rw [hm] at q; simp at q
  · have q := (hspec i o (by simpa using ho)).1.2.2
    rw [Array.all_eq_true_iff_forall_mem] at q
    have := q e he
    rw [hb] at this
    simpa using this
  · obtain ⟨e, he, hq⟩ := Array.any_eq_true'.1 hwk
    rw [Bool.and_eq_true, decide_eq_true_eq] at hq
    exact ⟨e, he, hq.1, hq.2⟩
  · have ho : l'[i]? = some o := by simpa using ho
    have hj : l'[j]? = some oj := by simpa using hj
    have hjl : j < l'.length := (List.getElem?_eq_some_iff.1 hj).1
    have q := List.all_eq_true.1 (hspec i o ho).2 j (List.mem_range.2 hjl)
    simp only [hj, he] at q
    rw [Bool.or_eq_true, decide_eq_true_eq] at q
    rcases q with q | q
    · exact hij q
    · rw [hje] at q; simp at q
  · have q := wpAnyQ_lex (P := P) (C := fun u => ∃ p : Bd m V, u = p.w) (Q := fun a' => a' = fin) (md := .any) hB1 l' 0 (Array.replicate l'.length false) a (by simp) (by simpa using hB2) (h V hV)
    rw [hlen] at q
    simpa using q
end
end Go.Proofs.Ytdgnblkoohakeaa
