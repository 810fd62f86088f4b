/- the program's scopeFits, scopeMayBe, checkScopes; written by gen/mb2.py -/
import Derived.Test.YtjaahmgokiobjaaGreatG15
import Derived.Test.YtjaahmgokiobjaaGreatG18
namespace Go.Proofs.YtjaahmgokiobjaaGreat
open Go.RowKit
set_option linter.unusedVariables false
set_option linter.unusedSimpArgs false

theorem follows_eq {g : GV} (i : Nat) (h0 : i ≠ 0) (s l p : Nat) (hs : scopeG g i = (s : Int)) (hl : scopeG g (i - 1) = (l : Int)) (hp : g.parent[s]! = (p : Int)) :
    followsG g i = (decide ((s : Int) ∈ chainL g.parent 10 (l : Int)) || (decide ((p : Int) ∈ chainL g.parent 10 (l : Int)) && !enteredG g i)) := by
  have ae : ∀ (L : List Int) (x : Int), L.any (fun y => decide (y = x)) = decide (x ∈ L) := fun L x => by
    rw [Bool.eq_iff_iff, List.any_eq_true, decide_eq_true_eq]
    constructor
    · rintro ⟨y, hy, e⟩
      rw [← of_decide_eq_true e]; exact hy
    · intro h
      exact ⟨x, h, decide_eq_true rfl⟩
  unfold followsG enteredG wasG
  rw [if_neg h0, hs, hl, Int.toNat_natCast, hp, ae, ae]
set_option maxRecDepth 100000 in
set_option maxHeartbeats 8000000 in
theorem pfitsC_any (g : GV) (v : Value) (i : Nat) (w : World) (h : IsG w v g) (hcap : capsG v) (T : Tree g) (hi : i < g.nodes.length) (hl : g.nodes.length ≤ 900000) (hl1 : g.parent.length ≤ 900000) (hs : ∀ j, j ≤ i → scopeOk g j) :
    Calls Tryz.prog 80 #[v, .int .i64 (i : Int)] w (Ret (.bool (followsG g i)) w) := by
  have hs0 := hs i (Nat.le_refl _)
  have hs1 := hs (i - 1) (by omega)
  unfold scopeOk at hs0 hs1
  obtain ⟨s, hsn⟩ : ∃ s : Nat, scopeG g i = (s : Int) := ⟨(scopeG g i).toNat, by unfold scopeG; omega⟩
  obtain ⟨l, hln⟩ : ∃ l : Nat, scopeG g (i - 1) = (l : Int) := ⟨(scopeG g (i - 1)).toNat, by unfold scopeG; omega⟩
  have hsl : s < g.parent.length := by unfold scopeG at hsn; omega
  have hll : l < g.parent.length := by unfold scopeG at hln; omega
  have hFs : Hid (i ≠ 0 → s = 0 → followsG g i = true) := fun h0 e => by
    subst e
    unfold followsG wasG
    rw [if_neg h0, hsn, hln, Bool.or_eq_true]
    refine .inl (List.any_eq_true.2 ⟨0, (T.to l).first_in (l + 1) l (by omega) (Nat.le_refl _) hll, by simp⟩)
  have hF0 : Hid (i = 0 → followsG g i = decide (s = 0)) := fun e => by
    subst e
    unfold followsG
    rw [if_pos rfl, hsn, decide_eq_decide]
    omega
  have HAr : Hid (∀ o : Nat, ∀ W, Below w.heap.size w W → Calls Tryz.prog 104 #[v, .int .i64 (o : Int), .int .i64 (l : Int)] W (Ret (.bool (decide ((o : Int) ∈ chainL g.parent 10 (l : Int)))) W)) := fun o W hW => paround_any g v o l W (h.below hW) (T.to l) hll hl1
  have HEn : Hid (∀ W, Below w.heap.size w W → Calls Tryz.prog 105 #[v, .int .i64 (i : Int)] W (Ret (.bool (enteredG g i)) W)) := fun W hW => pentered_any g v i W (h.below hW) hcap hi hl
  have HFe : Hid (i ≠ 0 → ∀ p : Nat, g.parent[s]! = (p : Int) → followsG g i = (decide ((s : Int) ∈ chainL g.parent 10 (l : Int)) || (decide ((p : Int) ∈ chainL g.parent 10 (l : Int)) && !enteredG g i))) := fun h0 p hp => follows_eq i h0 s l p hsn hln hp
  have HTa : Hid (0 < s → ∃ p : Nat, g.parent[s]! = (p : Int)) := fun h0 => ⟨(g.parent[s]!).toNat, by have := T.ahead s h0 hsl; omega⟩
  obtain ⟨p1, c1, p2, c2, p3, c3, p4, c4, rfl, G⟩ := h.go
  clear h hcap T hs
  have HP : Hid (∀ W, Below w.heap.size w W → ∃ b off, p1 = some ⟨b, off, none⟩ ∧ W.cell? ⟨b, off + s, none⟩ = some (.int .i64 g.parent[s]!)) := fun W hW => G.par W hW s hsl
  obtain ⟨b3, off3, q0, m0, rfl, _, hc0⟩ := G.nod i hi
  have HC0 : Hid (∀ W, Below w.heap.size w W → W.cell? ⟨b3, off3 + i * 4 + 1, none⟩ = some (.int .i64 (s : Int))) := fun W hW => by
    rw [← hsn]; exact (hc0 W hW).2.1
  have HC1 : Hid (∀ W, Below w.heap.size w W → W.cell? ⟨b3, off3 + (i - 1) * 4 + 1, none⟩ = some (.int .i64 (l : Int))) := fun W hW => by
    obtain ⟨b', off', p, c, e, _, hc⟩ := G.nod (i - 1) (by omega)
    simp only [Option.some.injEq, Addr.mk.injEq] at e
    obtain ⟨rfl, rfl, _⟩ := e
    rw [← hln]; exact (hc W hW).2.1
  clear G hc0 hs0 hs1 hsn hln
  have hil : (i : Int) < (g.nodes.length : Int) := by omega
  have hsz : (s : Int) < (g.parent.length : Int) := by omega
  have hi9 : i ≤ 900000 := by omega
  clear hll hl hl1
  generalize followsG g i = F at *
  generalize enteredG g i = E at *
  generalize hps : g.parent[s]! = ps at *
  clear hps
  generalize g.parent.length = n1 at *
  generalize g.bound.length = n2 at *
  generalize g.nodes.length = n3 at *
  generalize g.edges.length = n4 at *
  have HB0 := Lib.hid ((Below.refl w.heap.size w).alloc (Nat.le_refl _) (.cells #[.slice p1 n1 c1, .slice p2 n2 c2, .slice (some ⟨b3, off3, none⟩) n3 c3, .slice p4 n4 c4] 26))
  have HX0 : Hid (rowOf (w.alloc (.cells #[.slice p1 n1 c1, .slice p2 n2 c2, .slice (some ⟨b3, off3, none⟩) n3 c3, .slice p4 n4 c4] 26)) w.heap.size = some #[.slice p1 n1 c1, .slice p2 n2 c2, .slice (some ⟨b3, off3, none⟩) n3 c3, .slice p4 n4 c4]) := row_new rfl
  have e0 := HC0.out _ HB0.out
  by_cases h0 : i = 0
  · have hq := hF0.out h0
    clear HFe HAr HEn HTa HC1 HP hFs hF0
    subst h0
    by_cases hz : s = 0
    · subst hz
      rw [decide_eq_true rfl] at hq
      subst hq
      go_enter Tryz.func80, Tryz.ntmps80
      go_wp2
      go_returns
      exact ⟨rfl, HB0.out⟩
    · have sb : ((s : Int) == 0) = false := by simp; omega
      rw [decide_eq_false hz] at hq
      subst hq
      clear hz
      go_enter Tryz.func80, Tryz.ntmps80
      go_wp2
      go_returns
      exact ⟨by first | rfl | simp [sb], HB0.out⟩
  · have ib : ((i : Int) == 0) = false := by simp; omega
    by_cases hz : s = 0
    · have hq := hFs.out h0 hz
      subst hq
      subst hz
      clear HFe HAr HEn HTa HC1 HP hFs hF0 h0
      go_enter Tryz.func80, Tryz.ntmps80
      go_wp2
      go_returns
      exact ⟨by first | rfl | simp, HB0.out⟩
    · have sb : ((s : Int) == 0) = false := by simp; omega
      obtain ⟨m, hm⟩ : ∃ m, i = m + 1 := ⟨i - 1, by omega⟩
      have hwr : IntKind.i64.wrap ((i : Int) - 1) = (m : Int) := by rw [IntKind.wrap_i64]; omega
      have hmz : (m : Int) < (n3 : Int) := by omega
      obtain ⟨p, hp⟩ := HTa.out (by omega)
      have HF := Lib.hid (HFe.out h0 p hp)
      have HA2 := Lib.hid (HAr.out p)
      have HA1 := Lib.hid (HAr.out s)
      subst hp
      have e1 := HC1.out _ HB0.out
      rw [show i - 1 = m by omega] at e1
      obtain ⟨b1, off1, rfl, _⟩ := HP.out w (Below.refl _ _)
      have HP1 : Hid (∀ W, Below w.heap.size w W → W.cell? ⟨b1, off1 + s, none⟩ = some (.int .i64 (p : Int))) := fun W hW => by
        obtain ⟨b', off', e, hc'⟩ := HP.out W hW
        simp only [Option.some.injEq, Addr.mk.injEq] at e
        obtain ⟨rfl, rfl, _⟩ := e
        exact hc'
      generalize decide ((s : Int) ∈ chainL g.parent 10 (l : Int)) = A at *
      generalize decide ((p : Int) ∈ chainL g.parent 10 (l : Int)) = B at *
      clear HFe HAr HTa HC1 HP hFs hF0 h0 hz hm
      go_enter Tryz.func80, Tryz.ntmps80
      go_upto_region 5 with (fail)
      refine gen_world (fun W2 => Hid (Below w.heap.size w W2) ∧ Hid (rowOf W2 w.heap.size = some #[.slice (some ⟨b1, off1, none⟩) n1 c1, .slice p2 n2 c2, .slice (some ⟨b3, off3, none⟩) n3 c3, .slice p4 n4 c4])) ⟨HB0, HX0⟩ ?_
      clear HB0 HX0 e0 e1
      rintro w2 ⟨HB2, HX2⟩
      have x0 := bx_cell (rowOf_cell HX2.out 0 : _ = some (Value.slice (some ⟨b1, off1, none⟩) n1 c1))
      have x1 := bx_cell (rowOf_cell HX2.out 1 : _ = some (Value.slice p2 n2 c2))
      have x2 := bx_cell (rowOf_cell HX2.out 2 : _ = some (Value.slice (some ⟨b3, off3, none⟩) n3 c3))
      have x3 := bx_cell (rowOf_cell HX2.out 3 : _ = some (Value.slice p4 n4 c4))
      have y1 := bx_cell (HP1.out _ HB2.out)
      have K1 : Hid (∀ q : Bx w2, Calls Tryz.prog 104 #[.agg #[.slice (some ⟨b1, off1, none⟩) n1 c1, .slice p2 n2 c2, .slice (some ⟨b3, off3, none⟩) n3 c3, .slice p4 n4 c4], .int .i64 (s : Int), .int .i64 (l : Int)] q.w (Ret (.bool A) q.w)) := fun q => HA1.out q.w (bstep HB2.out q.h HB2.out.size)
      have K2 : Hid (∀ q : Bx w2, Calls Tryz.prog 104 #[.agg #[.slice (some ⟨b1, off1, none⟩) n1 c1, .slice p2 n2 c2, .slice (some ⟨b3, off3, none⟩) n3 c3, .slice p4 n4 c4], .int .i64 (p : Int), .int .i64 (l : Int)] q.w (Ret (.bool B) q.w)) := fun q => HA2.out q.w (bstep HB2.out q.h HB2.out.size)
      have K3 : Hid (∀ q : Bx w2, Calls Tryz.prog 105 #[.agg #[.slice (some ⟨b1, off1, none⟩) n1 c1, .slice p2 n2 c2, .slice (some ⟨b3, off3, none⟩) n3 c3, .slice p4 n4 c4], .int .i64 (i : Int)] q.w (Ret (.bool E) q.w)) := fun q => HEn.out q.w (bstep HB2.out q.h HB2.out.size)
      have hF := HF.out
      clear HF HA1 HA2 HEn HP1 HC0
      cases A
      · cases B
        · simp only [Bool.false_or, Bool.false_and] at hF
          subst hF
          refine wp_region_bx (by kernel_rfl) (by kernel_rfl) ?_
          repeat (first | go_big_quiet_step (first | (with_reducible exact Calls.bx (K1.out _)) | (with_reducible exact Calls.bx (K2.out _)) | (with_reducible exact Calls.bx (K3.out _))) | quiet_step (first | (with_reducible exact Calls.bx (K1.out _)) | (with_reducible exact Calls.bx (K2.out _)) | (with_reducible exact Calls.bx (K3.out _))))
          refine wpQuiet_nil ?_
          intro _ hw'
          obtain ⟨g9, hw''⟩ := hw'
          subst hw''
          have hb9 := g9.h
          generalize g9.w = w9 at hb9 ⊢
          clear g9
          have HB9 := Lib.hid (bstep HB2.out hb9 HB2.out.size)
          clear hb9 x0 x1 x2 x3 y1
          go_wp2
          go_returns
          exact ⟨rfl, HB9.out⟩
        · cases E
          · simp only [Bool.false_or, Bool.true_and, Bool.not_false] at hF
            subst hF
            refine wp_region_bx (by kernel_rfl) (by kernel_rfl) ?_
            repeat (first | go_big_quiet_step (first | (with_reducible exact Calls.bx (K1.out _)) | (with_reducible exact Calls.bx (K2.out _)) | (with_reducible exact Calls.bx (K3.out _))) | quiet_step (first | (with_reducible exact Calls.bx (K1.out _)) | (with_reducible exact Calls.bx (K2.out _)) | (with_reducible exact Calls.bx (K3.out _))))
            refine wpQuiet_nil ?_
            intro _ hw'
            obtain ⟨g9, hw''⟩ := hw'
            subst hw''
            have hb9 := g9.h
            generalize g9.w = w9 at hb9 ⊢
            clear g9
            have HB9 := Lib.hid (bstep HB2.out hb9 HB2.out.size)
            clear hb9 x0 x1 x2 x3 y1
            go_wp2
            go_returns
            exact ⟨rfl, HB9.out⟩
          · simp only [Bool.false_or, Bool.true_and, Bool.not_true] at hF
            subst hF
            refine wp_region_bx (by kernel_rfl) (by kernel_rfl) ?_
            repeat (first | go_big_quiet_step (first | (with_reducible exact Calls.bx (K1.out _)) | (with_reducible exact Calls.bx (K2.out _)) | (with_reducible exact Calls.bx (K3.out _))) | quiet_step (first | (with_reducible exact Calls.bx (K1.out _)) | (with_reducible exact Calls.bx (K2.out _)) | (with_reducible exact Calls.bx (K3.out _))))
            refine wpQuiet_nil ?_
            intro _ hw'
            obtain ⟨g9, hw''⟩ := hw'
            subst hw''
            have hb9 := g9.h
            generalize g9.w = w9 at hb9 ⊢
            clear g9
            have HB9 := Lib.hid (bstep HB2.out hb9 HB2.out.size)
            clear hb9 x0 x1 x2 x3 y1
            go_wp2
            go_returns
            exact ⟨rfl, HB9.out⟩
      · simp only [Bool.true_or] at hF
        subst hF
        refine wp_region_bx (by kernel_rfl) (by kernel_rfl) ?_
        repeat (first | go_big_quiet_step (first | (with_reducible exact Calls.bx (K1.out _)) | (with_reducible exact Calls.bx (K2.out _)) | (with_reducible exact Calls.bx (K3.out _))) | quiet_step (first | (with_reducible exact Calls.bx (K1.out _)) | (with_reducible exact Calls.bx (K2.out _)) | (with_reducible exact Calls.bx (K3.out _))))
        refine wpQuiet_nil ?_
        intro _ hw'
        obtain ⟨g9, hw''⟩ := hw'
        subst hw''
        have hb9 := g9.h
        generalize g9.w = w9 at hb9 ⊢
        clear g9
        have HB9 := Lib.hid (bstep HB2.out hb9 HB2.out.size)
        clear hb9 x0 x1 x2 x3 y1
        go_wp2
        go_returns
        exact ⟨rfl, HB9.out⟩
theorem decide_zero {x : Int} {b : Bool} (h : x = 0 ↔ b = true) : decide (x = 0) = b := by
  cases b
  · exact decide_eq_false fun e => by have := h.1 e; simp at this
  · exact decide_eq_true (h.2 rfl)
theorem scopeE_first (g : GV) : scopeE g 0 = 0 ↔ g.parent[0]! = -1 ∧ g.bound[0]! = 0 := by
  unfold scopeE
  split <;> rename_i c
  · constructor
    · intro _; rcases c with c | c; exact c.2; exact absurd c.1 (by omega)
    · intro _; rfl
  · constructor
    · intro h; simp at h
    · intro h; exact absurd (.inl ⟨rfl, h.1, h.2⟩) c
theorem scopeE_next (g : GV) (i : Nat) (hi : 0 < i) : scopeE g i = 0 ↔ 0 ≤ g.parent[i]! ∧ g.parent[i]! < (i : Int) ∧ 1 ≤ g.bound[i]! ∧ g.bound[i]! ≤ 64 ∧ (chainL g.parent 10 (i : Int)).length ≤ 4 := by
  unfold scopeE
  split <;> rename_i c
  · constructor
    · intro _; rcases c with c | c; exact absurd c.1 (by omega); exact c.2
    · intro _; rfl
  · constructor
    · intro h; simp at h
    · intro h; exact absurd (.inr ⟨hi, h⟩) c
/-- scopes up to one are in order, if those ahead of it are and its parent is ahead of it -/
theorem treeTo_next {g : GV} {i : Nat} (hi : i < g.parent.length) (hp : ∀ j, j < i → scopeE g j = 0) (h0 : 0 < i) (ha : 0 ≤ g.parent[i]! ∧ g.parent[i]! < (i : Int)) : TreeTo g i := by
  have root := ((scopeE_first g).1 (hp 0 h0)).1
  have ahead : ∀ j : Nat, 0 < j → j ≤ i → j < g.parent.length → 0 ≤ g.parent[j]! ∧ g.parent[j]! < (j : Int) := fun j h1 h2 h3 => by
    by_cases e : j = i
    · subst e; exact ha
    · have := (scopeE_next g j h1).1 (hp j (by omega)); exact ⟨this.1, this.2.1⟩
  have ch : ∀ j : Nat, j < i → (chainL g.parent 10 (j : Int)).length ≤ 4 := fun j hj => by
    by_cases e : 0 < j
    · exact ((scopeE_next g j e).1 (hp j hj)).2.2.2.2
    · obtain rfl : j = 0 := by omega
      have hm : chainL g.parent 9 (-1) = [] := by unfold chainL; rw [if_neg (by omega)]
      have e : chainL g.parent 10 ((0 : Nat) : Int) = chainL g.parent 9 g.parent[((0 : Nat) : Int).toNat]! ++ [((0 : Nat) : Int)] := by
        show (if _ then _ else _) = _
        rw [if_pos ⟨by omega, by omega⟩]
      rw [e, Int.toNat_natCast, root, hm]
      simp
  refine ⟨fun _ => root, ahead, fun j h2 h3 => ?_⟩
  by_cases e : j < i
  · exact Nat.le_trans (ch j e) (by decide)
  · obtain rfl : j = i := by omega
    have hq : (((g.parent[j]!).toNat : Nat) : Int) = g.parent[j]! := by omega
    have := chain_up (P := g.parent) (s := (j : Int)) (by omega) (by omega) (by rw [Int.toNat_natCast, ← hq]; exact Nat.le_trans (ch _ (by omega)) (by decide))
    rw [this, Int.toNat_natCast, ← hq]
    have := ch (g.parent[j]!).toNat (by omega)
    omega
set_option maxRecDepth 100000 in
set_option maxHeartbeats 8000000 in
theorem pscope_any (g : GV) (v : Value) (i : Nat) (w : World) (h : IsG w v g) (hi : i < g.parent.length) (hb : g.bound.length = g.parent.length) (hl : g.parent.length ≤ 900000) (hp : ∀ j, j < i → scopeE g j = 0) :
    Calls Tryz.prog 54 #[v, .int .i64 (i : Int)] w (Ret (.bool (decide (scopeE g i = 0))) w) := by
  have HDp : Hid (0 < i → 0 ≤ g.parent[i]! ∧ g.parent[i]! < (i : Int) → ∀ W, Below w.heap.size w W → Calls Tryz.prog 60 #[v, .int .i64 (i : Int)] W (Ret (.int .i64 ((chainL g.parent 10 (i : Int)).length : Int)) W)) := fun h0 ha W hW => pdepth_to g v i W (h.below hW) (treeTo_next hi hp h0 ha) hi hl
  have hV0 : Hid (i = 0 → decide (scopeE g i = 0) = decide (g.parent[i]! = -1 ∧ g.bound[i]! = 0)) := fun e => by
    subst e; rw [decide_eq_decide]; exact scopeE_first g
  have hV1 : Hid (0 < i → decide (scopeE g i = 0) = decide (0 ≤ g.parent[i]! ∧ g.parent[i]! < (i : Int) ∧ 1 ≤ g.bound[i]! ∧ g.bound[i]! ≤ 64 ∧ (chainL g.parent 10 (i : Int)).length ≤ 4)) := fun e => by
    rw [decide_eq_decide]; exact scopeE_next g i e
  obtain ⟨p1, c1, p2, c2, p3, c3, p4, c4, rfl, G⟩ := h.go
  clear h hp
  obtain ⟨b1, off1, rfl, _⟩ := G.par w (Below.refl _ _) i hi
  obtain ⟨b2, off2, rfl, _⟩ := G.bnd w (Below.refl _ _) i (by omega)
  have HP1 : Hid (∀ W, Below w.heap.size w W → W.cell? ⟨b1, off1 + i, none⟩ = some (.int .i64 g.parent[i]!)) := fun W hW => by
    obtain ⟨b', off', e, hc'⟩ := G.par W hW i hi
    simp only [Option.some.injEq, Addr.mk.injEq] at e
    obtain ⟨rfl, rfl, _⟩ := e
    exact hc'
  have HP2 : Hid (∀ W, Below w.heap.size w W → W.cell? ⟨b2, off2 + i, none⟩ = some (.int .i64 g.bound[i]!)) := fun W hW => by
    obtain ⟨b', off', e, hc'⟩ := G.bnd W hW i (by omega)
    simp only [Option.some.injEq, Addr.mk.injEq] at e
    obtain ⟨rfl, rfl, _⟩ := e
    exact hc'
  clear G
  have hil : (i : Int) < (g.parent.length : Int) := by omega
  have hil2 : (i : Int) < (g.bound.length : Int) := by omega
  generalize decide (scopeE g i = 0) = V at *
  generalize (chainL g.parent 10 (i : Int)).length = L at *
  generalize g.parent[i]! = pi at *
  generalize g.bound[i]! = bi at *
  clear hi hb hl
  generalize g.parent.length = n1 at *
  generalize g.bound.length = n2 at *
  generalize g.nodes.length = n3 at *
  generalize g.edges.length = n4 at *
  have HB0 := Lib.hid ((Below.refl w.heap.size w).alloc (Nat.le_refl _) (.cells #[.slice (some ⟨b1, off1, none⟩) n1 c1, .slice (some ⟨b2, off2, none⟩) n2 c2, .slice p3 n3 c3, .slice p4 n4 c4] 26))
  have HX0 : Hid (rowOf (w.alloc (.cells #[.slice (some ⟨b1, off1, none⟩) n1 c1, .slice (some ⟨b2, off2, none⟩) n2 c2, .slice p3 n3 c3, .slice p4 n4 c4] 26)) w.heap.size = some #[.slice (some ⟨b1, off1, none⟩) n1 c1, .slice (some ⟨b2, off2, none⟩) n2 c2, .slice p3 n3 c3, .slice p4 n4 c4]) := row_new rfl
  go_enter Tryz.func54, Tryz.ntmps54
  go_upto_region 1 with (fail)
  refine gen_world (fun W2 => Hid (Below w.heap.size w W2) ∧ Hid (rowOf W2 w.heap.size = some #[.slice (some ⟨b1, off1, none⟩) n1 c1, .slice (some ⟨b2, off2, none⟩) n2 c2, .slice p3 n3 c3, .slice p4 n4 c4])) ⟨HB0, HX0⟩ ?_
  clear HB0 HX0
  rintro w2 ⟨HB2, HX2⟩
  have x0 := bx_cell (rowOf_cell HX2.out 0 : _ = some (Value.slice (some ⟨b1, off1, none⟩) n1 c1))
  have x1 := bx_cell (rowOf_cell HX2.out 1 : _ = some (Value.slice (some ⟨b2, off2, none⟩) n2 c2))
  have x2 := bx_cell (rowOf_cell HX2.out 2 : _ = some (Value.slice p3 n3 c3))
  have x3 := bx_cell (rowOf_cell HX2.out 3 : _ = some (Value.slice p4 n4 c4))
  have y1 := bx_cell (HP1.out _ HB2.out)
  have y2 := bx_cell (HP2.out _ HB2.out)
  refine wp_region_bx (by kernel_rfl) (by kernel_rfl) ?_
  repeat (first | go_big_quiet_step (fail) | quiet_step (fail))
  refine wpQuiet_nil ?_
  intro _ hw'
  obtain ⟨g9, hw''⟩ := hw'
  subst hw''
  have hb9 := g9.h
  generalize g9.w = w3 at hb9 ⊢
  clear g9
  have HB3 := Lib.hid (bstep HB2.out hb9 HB2.out.size)
  have HX3 := Lib.hid (rowOf_below HX2.out hb9 (rowOf_lt HX2.out))
  clear hb9 x0 x1 x2 x3 y1 y2 HP1 HP2 HB2 HX2
  by_cases h0 : i = 0
  · have hq := hV0.out h0
    clear hV0 hV1 HDp
    subst h0
    by_cases a1 : pi = -1
    · subst a1
      by_cases a2 : bi = 0
      · subst a2
        rw [decide_eq_true ⟨rfl, rfl⟩] at hq
        subst hq
        go_wp2
        go_returns
        exact ⟨rfl, HB3.out⟩
      · have ab : (bi == 0) = false := by simpa using a2
        rw [decide_eq_false fun e => a2 e.2] at hq
        subst hq
        clear a2
        go_wp2
        go_returns
        exact ⟨by first | rfl | simp [ab], HB3.out⟩
    · have ab : (pi == -1) = false := by simpa using a1
      rw [decide_eq_false fun e => a1 e.1] at hq
      subst hq
      clear a1
      go_wp2
      go_returns
      exact ⟨by first | rfl | simp [ab], HB3.out⟩
  · have ib : ((i : Int) == 0) = false := by simp; omega
    have hq := hV1.out (by omega)
    have HD2 := Lib.hid (HDp.out (by omega))
    clear hV0 hV1 HDp h0
    by_cases a1 : 0 ≤ pi
    · by_cases a2 : pi < (i : Int)
      · have HD3 := Lib.hid (HD2.out ⟨a1, a2⟩)
        clear HD2
        by_cases a3 : 1 ≤ bi
        · by_cases a4 : bi ≤ 64
          · have hq2 : V = decide ((L : Int) ≤ 4) := by rw [hq, decide_eq_decide]; omega
            have g_0 := (rowOf_cell HX3.out 0 : _ = some (Value.slice (some ⟨b1, off1, none⟩) n1 c1))
            have g_1 := (rowOf_cell HX3.out 1 : _ = some (Value.slice (some ⟨b2, off2, none⟩) n2 c2))
            have g_2 := (rowOf_cell HX3.out 2 : _ = some (Value.slice p3 n3 c3))
            have g_3 := (rowOf_cell HX3.out 3 : _ = some (Value.slice p4 n4 c4))
            clear hq
            go_wp2_with fail
            refine (HD3.out _ HB3.out).mono ?_
            rintro e w4 ⟨rfl, hb⟩
            have HB4 := Lib.hid (bstep HB3.out hb HB3.out.size)
            clear hb g_0 g_1 g_2 g_3
            subst hq2
            go_wp2
            go_returns
            exact ⟨rfl, HB4.out⟩
          · rw [decide_eq_false fun e => a4 e.2.2.2.1] at hq
            subst hq
            clear HD3
            go_wp2
            go_returns
            exact ⟨by first | rfl | simp, HB3.out⟩
        · rw [decide_eq_false fun e => a3 e.2.2.1] at hq
          subst hq
          clear HD3
          go_wp2
          go_returns
          exact ⟨by first | rfl | simp, HB3.out⟩
      · rw [decide_eq_false fun e => a2 e.2.1] at hq
        subst hq
        clear HD2
        go_wp2
        go_returns
        exact ⟨by first | rfl | simp, HB3.out⟩
    · rw [decide_eq_false fun e => a1 e.1] at hq
      subst hq
      clear HD2
      go_wp2
      go_returns
      exact ⟨by first | rfl | simp, HB3.out⟩
end Go.Proofs.YtjaahmgokiobjaaGreat
