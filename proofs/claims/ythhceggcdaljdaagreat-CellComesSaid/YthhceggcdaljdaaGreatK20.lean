/- append to a row of the call's own within a fence; what comes of an operator as items -/
import Derived.Test.YthhceggcdaljdaaGreatK19
import Derived.Test.YthhceggcdaljdaaGreatG06
import Derived.OwnWalkIn
import Derived.Test.YthhceggcdaljdaaGreatK18
import Derived.Test.YthhceggcdaljdaaGreatK03
namespace Go.Proofs.YthhceggcdaljdaaGreat
open Go.RowKit Go.Shelf
set_option linter.unusedVariables false
set_option linter.unusedSimpArgs false

theorem RowKind.Own.appendBF {α : Type} {R : RowKind α} {F : Fence} {n : Nat} {ops : Array Oper} {rest : List Oper} {o : Oper} {a : Act} {Q : Exit → Act → World → Prop} {w : World} (hgd : o.guard = none) (s x : Operand)
    (ho : o.op = .call { callee := .builtin .append, args := #[s, x], argTypes := #[R.tS, R.tS] }) {B : Nat} {v vx : Value} {xs : List α} (hown : R.Own B w v xs) (hs : a.eval s = v) (ys : List α)
    (hx : a.eval x = vx) (hz : R.App w vx ys) (hlen : xs.length + ys.length ≤ 1000000) (hbase : B ≤ w.heap.size)
    (h : ∀ v' w', R.Own B w' v' (xs ++ ys) → w.grownBy w' v.ownBlock → StaysOrNew w v v' → wpListIn F n Tryz.prog ops Q rest (a.put o.dst v') w') : wpListIn F n Tryz.prog ops Q (o :: rest) a w := by
  obtain ⟨v', w', hr, h1, h2, h3⟩ := RowKind.run_appendB hown hz hlen hbase o.type
  refine wpListIn_plain hgd fun K hK => ?_
  unfold Oper.wpIn
  refine ⟨?_, ?_⟩
  · simp [Oper.about, ho, resolve, Target.leads, Sem.run_pure]
  · rw [Oper.semAt_plain F _ _ (by rw [ho]; intro c hc; cases hc)]
    simp [execOp, ho, resolve, invoke, builtin, hs, hx, hr, Result.andThen]
    exact hK _ _ (h v' w' h1 h2 h3)
def asI (l : List (RV × Int)) : List IV := l.map fun x => ⟨x.1, x.2⟩
theorem asI_append (l m : List (RV × Int)) : asI (l ++ m) = asI l ++ asI m := by simp [asI]
theorem asI_each (k arg : Int) (p : List NV) (b : List IV) : asI (eachP k arg p b) = eachO k arg p b := by
  induction b with
  | nil => rfl
  | cons c b ih =>
    have h1 : eachP k arg p (c :: b) = pairP (oftenO k c) (oneO k arg p c.t) ++ eachP k arg p b := by simp [eachP]
    rw [h1, asI_append, ih, eachO_cons]
    congr 1
    simp [asI, pairP, oftenO]
theorem asI_pairs (m o : List IV) : asI (pairsL m o) = pairsO m o := by
  induction m with
  | nil => rfl
  | cons c m ih =>
    have h1 : pairsL (c :: m) o = pairO c o ++ pairsL m o := by simp [pairsL]
    have h2 : pairsO (c :: m) o = (o.map fun d => (⟨sumO c.t.k c.t.v d.t.v, c.n * d.n⟩ : IV)) ++ pairsO m o := by simp [pairsO]
    rw [h1, asI_append, ih, h2]
    congr 1
    simp [asI, pairO]
theorem asI_key (kind : Int) (m o : List IV) : asI (keyL kind m o) = keyO kind m o := by
  unfold keyL keyO
  split
  · exact asI_pairs m o
  · rfl
theorem asI_keys (kind : Int) (a b : List IV) : asI (byKeysL kind a b) = byKeysO kind a b := by
  unfold byKeysL byKeysO
  induction keysO a.length a b with
  | nil => rfl
  | cons x l ih => rw [List.flatMap_cons, List.flatMap_cons, asI_append, ih, asI_key]
theorem asI_comes (k arg : Int) (p : List NV) (t0 t1 : List IV) : asI (comesL k arg p t0 t1) = comesO k arg p t0 t1 := by
  unfold comesL comesO
  split
  · exact asI_each _ _ _ _
  · split
    · exact asI_keys _ _ _
    · split
      · exact asI_keys _ _ _
      · split
        · exact asI_each _ _ _ _
        · rfl
theorem asI_prefix {l m : List (RV × Int)} (h : l <+: m) (hp : ∀ c ∈ asI m, 0 < c.n) : manyO (asI l) ≤ manyO (asI m) ∧ ∀ c ∈ asI l, 0 < c.n := by
  obtain ⟨r, rfl⟩ := h
  rw [asI_append] at hp ⊢
  rw [manyO_append]
  have h2 := manyO_pos (l := asI r) fun c hc => hp c (List.mem_append_right _ hc)
  exact ⟨by omega, fun c hc => hp c (List.mem_append_left _ hc)⟩
theorem asI_snoc (l : List (RV × Int)) (x : RV × Int) : asI (l ++ [x]) = asI l ++ [⟨x.1, x.2⟩] := by simp [asI]
theorem many_snoc (l : List (RV × Int)) (x : RV × Int) : manyO (asI (l ++ [x])) = manyO (asI l) + x.2 := by rw [asI_snoc, manyO_append]; simp [manyO]
/-- what a row of one's own program or bag is, where no block of it is turned -/
theorem KpL.isK {α : Type} [Inhabited α] {R : RowKind α} {Br Bl B0 : Nat} {A B : World} (h : KpL Br Bl A B) {v : Value} {L : List α} (hi : ∃ U, R.Is U v L ∧ Below U.heap.size U A ∧ U.heap.size ≤ B0) (hr : B0 ≤ Br) (hl : B0 ≤ Bl) (hp : ∀ g, rowPtr A Bl = some g → B0 ≤ g) : R.Is B v L := by
  obtain ⟨U, hU, hb, hs⟩ := hi
  have hA := hU.below hb
  rcases hU with ⟨h0, p, c, e, hc⟩ | ⟨h0, b, o, c, e, hbu, hrow⟩
  · exact .inl ⟨h0, p, c, e, hc⟩
  · rcases hA with ⟨h0', _⟩ | ⟨_, b', o', c', e', hb', hrow'⟩
    · exact absurd h0' h0
    · rw [e] at e'
      cases e'
      refine .inr ⟨h0, b, o, c, e, Nat.lt_of_lt_of_le hb' h.size, fun j hj q u hu => ?_⟩
      have hc := hrow' j hj q u hu
      unfold World.cell? at hc ⊢
      cases hk : A.heap[b]? with
      | none => simp [hk] at hc
      | some ob =>
        rw [h.same b ob hk ?_ (by omega) (by omega) (fun e2 => by have := hp b e2; omega)]
        · simpa [hk] using hc
        · simp only [hk] at hc
          cases ob <;> simp_all [Obj.isCells]
end Go.Proofs.YthhceggcdaljdaaGreat
/- Apply: what an operator makes of its bags -/
namespace Go.Proofs.YthhceggcdaljdaaGreat
open Go.RowKit Go.Shelf
attribute [local go_sem] Oper.semAt_some
set_option linter.unusedVariables false
set_option linter.unusedSimpArgs false

theorem ownK_grown {α : Type} {R : RowKind α} {B : Nat} {W V : World} {v : Value} {L : List α} (h : R.Own B W v L) {row : Option Nat} (hg : W.grownBy V row) (hr : ∀ r, row = some r → ∃ o : Obj, W.heap[r]? = some o ∧ o.isCells = false) : R.Own B V v L := by
  obtain ⟨h1, h2⟩ := h
  refine ⟨h1, ?_⟩
  rcases h2 with h2 | ⟨g, cap, cur, e, hB, hgc, rest⟩
  · exact .inl h2
  · refine .inr ⟨g, cap, cur, e, hB, (hg.block g (Array.getElem?_eq_some_iff.1 hgc).1 fun e2 => ?_).trans hgc, rest⟩
    obtain ⟨o, ho, hc⟩ := hr g e2.symm
    rw [hgc] at ho
    cases ho
    cases hc
theorem boxed_grown {B : Nat} {t : TypeId} {W V : World} {v : Value} (h : Go.Boxed W B t v) {row : Option Nat} (hg : W.grownBy V row) (hr : ∀ r, row = some r → ∃ o : Obj, W.heap[r]? = some o ∧ o.isCells = false) : Go.Boxed V B t v :=
  h.kept hg fun e => by
    obtain ⟨o, ho, hc⟩ := hr B e.symm
    rw [show W.heap[B]? = _ from h] at ho
    cases ho
    cases hc
/-- between the rounds of Apply's loop -/
structure ApI (N : Nat) (w W : World) (L : List IV) (v : Value) : Prop where
  r1 : Go.Boxed W (w.heap.size + 1) 37 (.slice none 0 0)
  r2 : Go.Boxed W (w.heap.size + 1 + 1) 4 (.bool false)
  l : Go.Boxed W (w.heap.size + 1 + 1 + 1) 37 v
  own : RI.Own N W v L
  r : Go.Boxed W (w.heap.size + 1 + 1 + 1 + 1) 3 (.int .i64 (65536 - manyO L))
  b : Below w.heap.size w W
theorem ApI.grown {N : Nat} {w W V : World} {L : List IV} {v : Value} (h : ApI N w W L v) {row : Option Nat} (hg : W.grownBy V row) (hr : ∀ r, row = some r → w.heap.size ≤ r ∧ ∃ o : Obj, W.heap[r]? = some o ∧ o.isCells = false) : ApI N w V L v :=
  ⟨boxed_grown h.r1 hg (fun r e => (hr r e).2), boxed_grown h.r2 hg (fun r e => (hr r e).2), boxed_grown h.l hg (fun r e => (hr r e).2), ownK_grown h.own hg (fun r e => (hr r e).2), boxed_grown h.r hg (fun r e => (hr r e).2), h.b.grown hg h.b.size (fun k e => (hr k e).1)⟩
theorem below_grown {w W V : World} (h : Below w.heap.size w W) {row : Option Nat} (hg : W.grownBy V row) (hr : ∀ r, row = some r → w.heap.size ≤ r ∧ ∃ o : Obj, W.heap[r]? = some o ∧ o.isCells = false) : Below w.heap.size w V := h.grown hg h.size (fun k e => (hr k e).1)
theorem rowPtr_box {W : World} {Bl : Nat} {t : TypeId} {v : Value} (h : Go.Boxed W Bl t v) : rowPtr W Bl = v.ownBlock := by
  unfold rowPtr
  rw [h.cell]
/-- a round that took its item -/
theorem ApI.took {N : Nat} {w W V : World} {L : List IV} {v : Value} (h : ApI N w W L v) {n : Int} {R : Value} (hv : V = W.setCell ⟨w.heap.size + 1 + 1 + 1 + 1, 0, none⟩ R) (hR : R = .int .i64 n) :
    (Go.Boxed V (w.heap.size + 1) 37 (.slice none 0 0) ∧ Go.Boxed V (w.heap.size + 1 + 1) 4 (.bool false) ∧ Go.Boxed V (w.heap.size + 1 + 1 + 1) 37 v ∧ Go.Boxed V (w.heap.size + 1 + 1 + 1 + 1) 3 (.int .i64 n)) ∧ RI.Own N V v L ∧ Below w.heap.size w V := by
  subst hv hR
  refine ⟨⟨h.r1.other (by omega) _, h.r2.other (by omega) _, h.l.other (by omega) _, h.r.set _⟩, ?_, h.b.setCell (p := ⟨_, 0, none⟩) (by show _ ≤ _; simp only; omega) _⟩
  obtain ⟨h1, h2⟩ := h.own
  exact World.ownsRow.kept ⟨h1, h2⟩ (grownBy_setCell' W _ _) (.inr (h.r.not_row (by decide) ⟨h1, h2⟩).symm)
theorem ApI.below {N : Nat} {w W V : World} {L : List IV} {v : Value} (h : ApI N w W L v) (hb : Below W.heap.size W V) : ApI N w V L v := h.grown (grown_of_below hb) (fun r e => by cases e)
/-- behind the append of a round -/
theorem ApI.appended {N : Nat} {w U w1 : World} (hN : w.heap.size ≤ N) {L : List IV} {x : IV} {v v' : Value} {n : Int} {tmp : Obj} (h : ApI N w U L v) (hn : n = 65536 - manyO (L ++ [x]))
    (hO : RI.Own N w1 v' (L ++ [x])) (hg : ((U.setCell ⟨w.heap.size + 1 + 1 + 1 + 1, 0, none⟩ (.int .i64 n)).alloc tmp).grownBy w1 v.ownBlock) (hs : StaysOrNew ((U.setCell ⟨w.heap.size + 1 + 1 + 1 + 1, 0, none⟩ (.int .i64 n)).alloc tmp) v v') :
    Go.Boxed w1 (w.heap.size + 1 + 1 + 1) 37 v ∧ (ApI N w (w1.setCell ⟨w.heap.size + 1 + 1 + 1, 0, none⟩ v') (L ++ [x]) v' ∧ KpL (w.heap.size + 1 + 1 + 1 + 1) (w.heap.size + 1 + 1 + 1) U (w1.setCell ⟨w.heap.size + 1 + 1 + 1, 0, none⟩ v') ∧
      ∀ B, KeepsFrom B U (w1.setCell ⟨w.heap.size + 1 + 1 + 1, 0, none⟩ v')) := by
  obtain ⟨⟨b1, b2, bl, br⟩, ho, hb⟩ := h.took (n := n) rfl rfl
  have hsz : (U.setCell ⟨w.heap.size + 1 + 1 + 1 + 1, 0, none⟩ (.int .i64 n)).heap.size = U.heap.size := by simp [World.setCell]
  have hnr1 := b1.not_row (by decide) ho
  have hnr2 := b2.not_row (by decide) ho
  have hnr := br.not_row (by decide) ho
  have hbs := hb.size
  obtain ⟨hv1, hv2, hr2, hk2, hb2⟩ := Go.Boxed.appended (n₀ := w.heap.size) (tmp := tmp) bl (by decide) (RowKind.Own.mono (R := RI) ho (by omega)) (by omega) (by omega) (RowKind.Own.mono (R := RI) hO (by omega)) hg
  have k1 : KeepsOthers U (U.setCell ⟨w.heap.size + 1 + 1 + 1 + 1, 0, none⟩ (.int .i64 n)) := KeepsOthers.setCell _ _ _
  refine ⟨hv1, ⟨((b1.alloc tmp).kept hg hnr1).other (by omega) _, ((b2.alloc tmp).kept hg hnr2).other (by omega) _, hv2, World.ownsRow.kept hO (grownBy_setCell' w1 _ v') (.inr (hv1.not_row (by decide) hO).symm), by rw [← hn]; exact ((br.alloc tmp).kept hg hnr).other (by omega) _, hb.trans hb2⟩, ?_, fun B => (k1.trans hk2).from B⟩
  have hg2 : (U.setCell ⟨w.heap.size + 1 + 1 + 1 + 1, 0, none⟩ (.int .i64 n)).heap.size ≤ w1.heap.size := Nat.le_trans (by simp) hg.size
  have hsz5 : (w1.setCell ⟨w.heap.size + 1 + 1 + 1, 0, none⟩ v').heap.size = w1.heap.size := by simp [World.setCell]
  refine ⟨hg.os, hg.tape, hg.output, by omega, fun j o hj hc h1 h2 h3 => ?_, ?_, fun _ g e => ?_⟩
  · rw [rowPtr_box h.l] at h3
    have e1 := Below.heap_setCell U ⟨w.heap.size + 1 + 1 + 1 + 1, 0, none⟩ (.int .i64 n) j h1
    have hjl : j < (U.setCell ⟨w.heap.size + 1 + 1 + 1 + 1, 0, none⟩ (.int .i64 n)).heap.size := by rw [hsz]; exact (Array.getElem?_eq_some_iff.1 hj).1
    rw [Below.heap_setCell w1 ⟨w.heap.size + 1 + 1 + 1, 0, none⟩ v' j h2, hg.block j (by rw [World.size_alloc]; omega) (fun e => h3 e.symm), Below.heap_alloc _ tmp j hjl, e1]
    exact hj
  · rw [rowPtr_box hv2, rowPtr_box h.l]
    rcases hs with hs | hs
    · exact .inl hs
    · exact .inr fun g e => by have := hs g e; rw [World.size_alloc] at this; omega
  · rw [rowPtr_box hv2] at e
    rw [hsz5]
    exact (RowKind.Own.lt hO g e).2

set_option maxRecDepth 100000 in
set_option maxHeartbeats 8000000 in
theorem papply_any (k s arg : Int) (q : Option Addr) (c : Nat) (p : List NV) (pp : Option Addr) (m cp : Nat) (t0 t1 : List IV) (w : World) (hp : RC.Is w (.slice q p.length c) p) (hpl : k = 2 → p.length ≤ 900000) (hpn : ∀ x ∈ p, inR x.n) (ha : inR arg)
    (h0 : t0.length ≤ 400000) (h1 : t1.length ≤ 400000) (hq0 : ∀ c ∈ t0, (inR c.t.k ∧ inR c.t.v) ∧ 0 < c.n ∧ c.n ≤ 2147483648) (hq1 : ∀ c ∈ t1, (inR c.t.k ∧ inR c.t.v) ∧ 0 < c.n ∧ c.n ≤ 2147483648)
    (hc0 : ∀ V, Below w.heap.size w V → Calls Tryz.prog 138 #[.slice pp m cp, .int .i64 0] V (RI.Made t0 V)) (hc1 : ∀ V, Below w.heap.size w V → Calls Tryz.prog 138 #[.slice pp m cp, .int .i64 1] V (RI.Made t1 V)) :
    Calls Tryz.prog 65 #[.agg #[.int .i64 k, .int .i64 s, .int .i64 arg, .slice q p.length c], .slice pp m cp] w (fun e w' => ∃ v, e = .returned (.tuple #[v, .bool (applyO k arg p t0 t1).2]) ∧ RI.Own w.heap.size w' v (applyO k arg p t0 t1).1 ∧ Below w.heap.size w w') := by
  have hys : asI (comesL k arg p t0 t1) = comesO k arg p t0 t1 := asI_comes k arg p t0 t1
  have HYP : Hid (∀ c ∈ asI (comesL k arg p t0 t1), 0 < c.n) := by rw [hys]; exact comesO_pos (fun c hc => (hq0 c hc).2.1) (fun c hc => (hq1 c hc).2.1)
  have HAP : Hid ((65536 < manyO (asI (comesL k arg p t0 t1)) → applyO k arg p t0 t1 = ([], false)) ∧ (manyO (asI (comesL k arg p t0 t1)) ≤ 65536 → applyO k arg p t0 t1 = (togO (asI (comesL k arg p t0 t1)), true))) := by
    rw [hys]
    unfold applyO
    exact ⟨fun h => if_neg (by omega), fun h => if_pos h⟩
  have HCO : Hid (∀ V, V.heap.size = w.heap.size + 1 + 1 + 1 + 1 + 1 → Below w.heap.size w V → rowPtr V (w.heap.size + 1 + 1 + 1) = none →
      Calls Tryz.prog 100 #[.agg #[.int .i64 k, .int .i64 s, .int .i64 arg, .slice q p.length c], .slice pp m cp] V (GivesI (KpL (w.heap.size + 1 + 1 + 1 + 1) (w.heap.size + 1 + 1 + 1)) (comesL k arg p t0 t1) V)) := fun V hs hb hn =>
    comes_any (fun _ _ h => h) k s arg q c p pp m cp t0 t1 V {
      lB := by omega
      rB := by omega
      ptr := fun g e => by rw [hn] at e; cases e
      pl := hpl
      pn := hpn
      pi := fun W' hk => hk.isK (B0 := w.heap.size) ⟨w, hp, hb, Nat.le_refl _⟩ (by omega) (by omega) (fun g e => by rw [hn] at e; cases e)
      arg := ha
      l0 := h0
      l1 := h1
      q0 := fun c hc => ⟨(hq0 c hc).1, Int.le_of_lt (hq0 c hc).2.1, (hq0 c hc).2.2⟩
      q1 := fun c hc => ⟨(hq1 c hc).1, Int.le_of_lt (hq1 c hc).2.1, (hq1 c hc).2.2⟩
      c0 := fun U hU => (hc0 U (hb.trans (hU.mono (by omega)))).mono fun e W hm => hasT_made hm hU (by omega) (by omega) (fun g e => by rw [hn] at e; cases e)
      c1 := fun U hU => (hc1 U (hb.trans (hU.mono (by omega)))).mono fun e W hm => hasT_made hm hU (by omega) (by omega) (fun g e => by rw [hn] at e; cases e) }
  clear hys hp hpl hpn ha h0 h1 hq0 hq1 hc0 hc1
  generalize applyO k arg p t0 t1 = ap at *
  generalize comesL k arg p t0 t1 = ys at *
  refine (callsIn_wide (n := 3)).1 ?_
  refine callsIn_of_wp_marks Tryz.func65 rfl trivial ?_ rfl
  simp only [Tryz.ntmps65, List.size_toArray, List.length_cons, List.length_nil, Nat.reduceAdd, Nat.reduceSub, Array.replicate_succ, Array.replicate_zero, List.push_toArray, List.append_toArray, List.nil_append, List.cons_append]
  have hc : ∃ W0, ((((w.alloc (.cells #[.int .i64 k, .int .i64 s, .int .i64 arg, .slice q p.length c] 47)).alloc (.cells #[.slice none 0 0] 37)).alloc (.cells #[.bool false] 4)).alloc (.cells #[.slice none 0 0] 37)).alloc (.cells #[.int .i64 65536] 3) = W0 := ⟨_, rfl⟩
  obtain ⟨W0, hW0⟩ := hc
  have HI0 : Hid (ApI (W0.heap.size + 1) w W0 [] (.slice none 0 0) ∧ W0.heap.size = w.heap.size + 1 + 1 + 1 + 1 + 1) := by
    rw [← hW0]
    refine ⟨⟨heap_old (heap_old (heap_old (heap_new _ _ _ (by simp)) _) _) _, heap_old (heap_old (heap_new _ _ _ (by simp)) _) _, heap_old (heap_new _ _ _ (by simp)) _, RowKind.Own.nil RI _ _, heap_new _ _ _ (by simp), by go_grown⟩, by simp⟩
  have HW0 := Lib.hid hW0
  clear hW0
  gi_wp2_with fail
  rw [HW0.out]
  refine ⟨trivial, ?_⟩
  gi_at_call 100
  refine (callsIn_wide.2 (HCO.out W0 HI0.out.2 HI0.out.1.b (by rw [rowPtr_box HI0.out.1.l]; rfl))).mono ?_
  rintro e W1 ⟨gf, lb, rfl, hb1, hen, hit⟩
  have hs1 : w.heap.size + 1 + 1 + 1 + 1 + 1 ≤ W1.heap.size := by rw [← HI0.out.2]; exact hb1.size
  have HI1 : Hid (ApI (W1.heap.size + 1) w W1 [] (.slice none 0 0)) := by
    have h := HI0.out.1.below hb1
    exact ⟨h.r1, h.r2, h.l, RowKind.Own.nil RI _ _, h.r, h.b⟩
  clear HCO HW0 HI0 hb1
  gi_wp2
  refine iter_outer (by decide) (gf := gf) (lb := lb) rfl hen hit.v (fun _ _ _ _ _ _ _ _ => trivial) (Below.refl _ _) (fun _ => rfl) (fun h k => KpL.trans h k) (fun U o o' h1 h2 => KpL.putObj U _ o o' h1 h2 (by omega))
    (fun (pre : List (RV × Int)) U => (∃ v, ApI (W1.heap.size + 1) w U (asI pre) v) ∧ manyO (asI pre) ≤ 65536)
    (fun c (pre : List (RV × Int)) U => c = .ret ∧ 65536 < manyO (asI ys) ∧ Go.Boxed U (w.heap.size + 1) 37 (.slice none 0 0) ∧ Go.Boxed U (w.heap.size + 1 + 1) 4 (.bool false) ∧ Below w.heap.size w U)
    (fun s A B row hs hg hr => by
      obtain ⟨⟨v, h1⟩, h2⟩ := hs
      exact ⟨⟨v, h1.grown hg (fun r e => ⟨by have := (hr r e).1; omega, (hr r e).2⟩)⟩, h2⟩)
    (fun c s A B row hs hg hr => by
      obtain ⟨h1, h2, h3, h4, h5⟩ := hs
      exact ⟨h1, h2, boxed_grown h3 hg (fun r e => (hr r e).2), boxed_grown h4 hg (fun r e => (hr r e).2), below_grown h5 hg (fun r e => ⟨by have := (hr r e).1; omega, (hr r e).2⟩)⟩)
    ⟨⟨_, HI1.out⟩, by decide⟩
    (fun x a' U => ∃ Bx, w.heap.size + 1 + 1 + 1 + 1 < Bx ∧ U.heap[Bx]? = some (.cells #[.int .i64 x.1.k, .int .i64 x.1.v] 27 (0, 0)) ∧ a' = { tmps := #[.agg #[.int .i64 k, .int .i64 s, .int .i64 arg, .slice q p.length c], .slice pp m cp, .pointer (some ⟨w.heap.size, 0, none⟩), undef, .pointer (some ⟨w.heap.size + 1, 0, none⟩), .pointer (some ⟨w.heap.size + 1 + 1, 0, none⟩), .pointer (some ⟨w.heap.size + 1 + 1 + 1, 0, none⟩), .pointer (some ⟨w.heap.size + 1 + 1 + 1 + 1, 0, none⟩), .pointer (some ⟨Bx, 0, none⟩), .int .i64 x.2, .agg #[.int .i64 k, .int .i64 s, .int .i64 arg, .slice q p.length c], .slice pp m cp, .func (.func gf) #[] lb, x.1.val, .int .i64 x.2, undef, undef, undef, undef, undef, undef, undef, undef, undef, undef, undef, undef, undef, undef], defers := [] })
    (fun x a' _ A B row hs hg hr => by
      obtain ⟨Bx, h1, h2, h3⟩ := hs
      exact ⟨Bx, h1, (hg.block Bx (Array.getElem?_eq_some_iff.1 h2).1 fun e => by obtain ⟨_, o, ho, hc⟩ := hr Bx e.symm; rw [h2] at ho; cases ho; cases hc).trans h2, h3⟩)
    ?assign ?body ?done ?stop
  case assign =>
    rintro l1 pre ⟨⟨rk, rv⟩, rn⟩ U K ⟨⟨v, hA⟩, hm⟩ _ hK
    dsimp only [encO, RV.val] at hK ⊢
    gi_wp2
    have hab : Below U.heap.size U (U.alloc (.cells #[.int .i64 rk, .int .i64 rv] 27)) := (Below.refl _ U).alloc (Nat.le_refl _) _
    exact hK _ _ (KeepsFrom.of_grownBy (grown_of_below hab) (fun j e => by cases e)) (KpL.of_below hab hA.l.lt) ⟨⟨v, hA.below hab⟩, hm⟩ trivial ⟨U.heap.size, hA.r.lt, World.alloc_heap_new U _, rfl⟩
  case body =>
    rintro l1 pre ⟨⟨rk, rv⟩, rn⟩ a' U hl1 hpre _ ⟨r1, hr1⟩ ⟨⟨v, hA⟩, hm⟩ ⟨Bx, hBx, hx, rfl⟩
    obtain ⟨hq1, hq2⟩ := asI_prefix hpre HYP.out
    rw [many_snoc] at hq1
    have hrn : 0 < rn := hq2 ⟨⟨rk, rv⟩, rn⟩ (by rw [asI_snoc]; simp)
    have hpre0 : 0 ≤ manyO (asI pre) := manyO_pos fun c hc => hq2 c (by rw [asI_snoc]; exact List.mem_append_left _ hc)
    have hlen : ((asI pre).length : Int) ≤ manyO (asI pre) := manyO_len fun c hc => hq2 c (by rw [asI_snoc]; exact List.mem_append_left _ hc)
    have HA := Lib.hid hA
    have cr := hA.r.cell
    have fr := hA.r.frozen
    dsimp only [encO, RV.val] at hq1 ⊢
    by_cases hroom : 65536 - manyO (asI pre) < rn
    · have HM : Hid (65536 < manyO (asI ys)) := by show _ < _; omega
      generalize 65536 - manyO (asI pre) = ro at *
      have c1 := hA.r1.cell
      have f1 := hA.r1.frozen
      have c2 := hA.r2.cell
      have f2 := hA.r2.frozen
      clear hq1 hq2 hrn hpre0 hlen hm hx hA
      gi_wp2
      exact ⟨((KeepsOthers.setCell _ _ _).trans (KeepsOthers.setCell _ _ _)).from _, rfl, HM.out, (HA.out.r1.set _).other (by omega) _, (HA.out.r2.other (by omega) _).set _, (HA.out.b.setCell (p := ⟨_, 0, none⟩) (by show _ ≤ _; simp only; omega) _).setCell (p := ⟨_, 0, none⟩) (by show _ ≤ _; simp only; omega) _⟩
    · obtain ⟨pv, cv, rfl⟩ := hA.own.is.slice
      have HN : Hid (65536 - manyO (asI pre) - rn = 65536 - manyO (asI pre ++ [⟨⟨rk, rv⟩, rn⟩])) := by
        show _ = _
        rw [← asI_snoc pre (⟨rk, rv⟩, rn), many_snoc]
        omega
      have HM : Hid (manyO (asI (pre ++ [(⟨rk, rv⟩, rn)])) ≤ 65536) := by show _ ≤ _; rw [many_snoc]; show _ + rn ≤ _; omega
      have HLN : Hid ((asI pre).length ≤ 65536) := by show _ ≤ _; omega
      have HSN : Hid (asI (pre ++ [(⟨rk, rv⟩, rn)]) = asI pre ++ [⟨⟨rk, rv⟩, rn⟩]) := asI_snoc _ _
      have hro : 0 ≤ 65536 - manyO (asI pre) - rn ∧ 65536 - manyO (asI pre) ≤ 65536 := by omega
      generalize asI pre = L at *
      generalize 65536 - manyO L = ro at *
      have cl := hA.l.cell
      have fl := hA.l.frozen
      have cx0 : U.cell? ⟨Bx, 0, none⟩ = some (.int .i64 rk) := cells_of hx rfl
      have cx1 : U.cell? ⟨Bx, 1, none⟩ = some (.int .i64 rv) := cells_of hx rfl
      have lx := cell_in cx0
      have hss : (U.setCell ⟨w.heap.size + 1 + 1 + 1 + 1, 0, none⟩ (.int .i64 (ro - rn))).heap.size = U.heap.size := by simp [World.setCell]
      have HT := Lib.hid (HA.out.took (n := ro - rn) rfl rfl).2
      have HAPP : Hid (RI.App ((U.setCell ⟨w.heap.size + 1 + 1 + 1 + 1, 0, none⟩ (.int .i64 (ro - rn))).alloc (.cells #[.int .i64 rk, .int .i64 rv, .int .i64 rn] 57)) (.slice (some ⟨U.heap.size, 0, none⟩) 1 1) [⟨⟨rk, rv⟩, rn⟩]) := by
        have h := RowKind.Row.app (R := RI) (c := 1) (ys := [⟨⟨rk, rv⟩, rn⟩]) (RowKind.Row.new (R := RI) (U.setCell ⟨w.heap.size + 1 + 1 + 1 + 1, 0, none⟩ (.int .i64 (ro - rn))) ⟨⟨rk, rv⟩, rn⟩ 57)
        rw [hss] at h
        exact h
      have HLL : Hid (L.length + [(⟨⟨rk, rv⟩, rn⟩ : IV)].length ≤ 1000000) := by have := HLN.out; show _ + 1 ≤ _; omega
      have HBS : Hid (W1.heap.size + 1 ≤ ((U.setCell ⟨w.heap.size + 1 + 1 + 1 + 1, 0, none⟩ (.int .i64 (ro - rn))).alloc (.cells #[.int .i64 rk, .int .i64 rv, .int .i64 rn] 57)).heap.size) := Nat.le_trans (Nat.succ_le_of_lt (Nat.lt_of_le_of_lt hl1 (Array.getElem?_eq_some_iff.1 hr1).1)) (by simp [World.setCell])
      clear hq1 hq2 hpre0 hlen hm hx hA hr1 hss
      gi_wp2_with (gi_at_builtin; refine RowKind.Own.appendBF (R := RI) rfl _ _ rfl (HT.out.1.alloc _) rfl [⟨⟨rk, rv⟩, rn⟩] rfl HAPP.out HLL.out HBS.out ?_; intro v' w1 hO1 hg1 hs1; obtain ⟨p', c', rfl⟩ := hO1.is.slice; obtain ⟨hv1, hA2, hk2, hf2⟩ := HA.out.appended (by omega) HN.out hO1 hg1 hs1; have cv1 := hv1.cell; have fv1 := hv1.frozen)
      simp only [List.length_append, List.length_singleton] at hA2 hk2 hf2
      exact ⟨hf2 _, hk2, ⟨_, by rw [HSN.out]; exact hA2⟩, HM.out⟩
  case done =>
    rintro D U hD hK ⟨⟨v, hA⟩, hm⟩
    subst hD
    obtain ⟨pv, cv, rfl⟩ := hA.own.is.slice
    have hlen : ((asI ys).length : Int) ≤ manyO (asI ys) := manyO_len HYP.out
    have HTG := Lib.hid (ptogether_any (W1.heap.size + 1) (asI ys) _ U hA.own (by have := (Array.getElem?_eq_some_iff.1 hK).1; omega) (by omega) HYP.out hm)
    have hap := HAP.out.2 hm
    subst hap
    have cl := hA.l.cell
    have HA := Lib.hid hA
    clear hlen hA hm HYP HAP
    gi_wp2_with (refine ⟨trivial, ?_⟩; gi_at_call 101; refine (callsIn_wide.2 HTG.out).mono ?_; rintro e U1 ⟨v', rfl, hO1, hb1⟩; obtain ⟨p', c', rfl⟩ := hO1.is.slice; have b1 : Go.Boxed U1 (w.heap.size + 1) 37 (.slice none 0 0) := (hb1.block _ (by omega)).trans HA.out.r1; have b2 : Go.Boxed U1 (w.heap.size + 1 + 1) 4 (.bool false) := (hb1.block _ (by omega)).trans HA.out.r2; have c1 := b1.cell; have f1 := b1.frozen; have c2 := b2.cell; have f2 := b2.frozen)
    have hK1 : U1.heap[W1.heap.size]? = some (.deferred (some [])) := (hb1.block W1.heap.size (by omega)).trans hK
    have hbb : Below w.heap.size w U1 := HA.out.b.trans (hb1.mono (by omega))
    have e1 := (b1.set (.slice p' (togO (asI ys)).length c')).other (show w.heap.size + 1 ≠ w.heap.size + 1 + 1 by omega) (.bool true)
    have e2 := (b2.other (show w.heap.size + 1 + 1 ≠ w.heap.size + 1 by omega) (.slice p' (togO (asI ys)).length c')).set (.bool true)
    have hO2 := World.ownsRow.kept hO1 (grownBy_setCell' U1 (w.heap.size + 1) (.slice p' (togO (asI ys)).length c')) (.inr (b1.not_row (by decide) hO1).symm)
    have b2' := b2.other (show w.heap.size + 1 + 1 ≠ w.heap.size + 1 by omega) (.slice p' (togO (asI ys)).length c')
    have hO3 := World.ownsRow.kept hO2 (grownBy_setCell' _ (w.heap.size + 1 + 1) (.bool true)) (.inr (b2'.not_row (by decide) hO2).symm)
    have hK2 : ((U1.setCell ⟨w.heap.size + 1, 0, none⟩ (.slice p' (togO (asI ys)).length c')).setCell ⟨w.heap.size + 1 + 1, 0, none⟩ (.bool true)).heap[W1.heap.size]? = some (.deferred (some [])) := (KeepsOthers.setCell _ _ _).same W1.heap.size _ ((KeepsOthers.setCell _ _ _).same W1.heap.size _ hK1 rfl) rfl
    have hbe := (hbb.setCell (p := ⟨w.heap.size + 1, 0, none⟩) (by show _ ≤ _; simp only; omega) (.slice p' (togO (asI ys)).length c')).setCell (p := ⟨w.heap.size + 1 + 1, 0, none⟩) (by show _ ≤ _; simp only; omega) (.bool true)
    generalize (U1.setCell ⟨w.heap.size + 1, 0, none⟩ (.slice p' (togO (asI ys)).length c')).setCell ⟨w.heap.size + 1 + 1, 0, none⟩ (.bool true) = U2 at *
    refine ⟨by simp, .inl ⟨_, _, rfl, run_takeDeferred hK2, ?_⟩⟩
    have hc1 := cell_kept e1.cell (grownBy_putObj' _ W1.heap.size (.deferred none)) (fun r e => by cases e; exact ⟨_, hK2, rfl⟩)
    have hc2 := cell_kept e2.cell (grownBy_putObj' _ W1.heap.size (.deferred none)) (fun r e => by cases e; exact ⟨_, hK2, rfl⟩)
    have hO4 := ownK_grown (R := RI) hO3 (grownBy_putObj' U2 W1.heap.size (.deferred none)) (fun r e => by cases e; exact ⟨_, hK2, rfl⟩)
    refine ⟨_, ?_, .slice p' (togO (asI ys)).length c', rfl, RowKind.Own.mono (R := RI) hO4 (by omega), hbe.trans (belowK_b (w := w) (Nat.le_refl _) U2 W1.heap.size _ _ (by omega) hK2 rfl rfl)⟩
    simp [results, Tryz.results65, go_sem, hc1, hc2]
  case stop =>
    rintro D c pre U hD hK hpre ⟨rfl, hbig, hr1, hr2, hb⟩
    gi_wp2
    refine ⟨by simp, .inl ⟨_, _, rfl, run_takeDeferred hK, ?_⟩⟩
    have hc1 := cell_kept hr1.cell (grownBy_putObj' _ D (.deferred none)) (fun r e => by cases e; exact ⟨_, hK, rfl⟩)
    have hc2 := cell_kept hr2.cell (grownBy_putObj' _ D (.deferred none)) (fun r e => by cases e; exact ⟨_, hK, rfl⟩)
    have hap := HAP.out.1 hbig
    subst hap
    refine ⟨_, ?_, .slice none 0 0, rfl, RowKind.Own.nil RI _ _, hb.trans (belowK_b (w := w) (Nat.le_refl _) U D _ _ (by omega) hK rfl rfl)⟩
    simp [results, Tryz.results65, go_sem, hc1, hc2]

end Go.Proofs.YthhceggcdaljdaaGreat
