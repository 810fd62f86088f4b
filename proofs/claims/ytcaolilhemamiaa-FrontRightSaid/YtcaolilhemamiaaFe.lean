import Derived.Test.YtcaolilhemamiaaFp
import Derived.Test.YtcaolilhemamiaaCf
import Derived.Laws.Cover3
namespace Go.Proofs.Ytcaolilhemamiaa
open Go.RowKit
set_option linter.unusedVariables false
set_option linter.unusedSimpArgs false

theorem eqNilC (a : Option Addr) (l c : Nat) (w : World) : (binOp .eql 46 (.slice a l c) (.slice none 0 0)).run Try.prog w = .ok (.bool a.isNone) w := by
  simp only [binOp]
  simp [run_equal_slice_nil w _ _ a l c Try.underlying46]
attribute [local go_sem ↓] eqNilC
/-- a slice of which no more is known than that it is read -/
def AnsC (xs : List CV) (w : World) (e : Ending) (w' : World) : Prop := ∃ v, e = .returned v ∧ RC.Is w' v xs ∧ capOk v ∧ Below w.heap.size w w'
theorem ownCap {B : Nat} {w : World} {v : Value} {xs : List CV} (h : RC.Own B w v xs) : capOk v := by
  obtain ⟨_, ⟨rfl, _⟩ | ⟨g, cap, cur, rfl, _, _, hle, _⟩⟩ := h
  · intro p n c e; cases e; exact Nat.le_refl _
  · intro p n c e; cases e; exact hle
theorem MadeC.ans {xs : List CV} {w : World} {e : Ending} {w' : World} (h : RC.Made xs w e w') : AnsC xs w e w' := by
  obtain ⟨v, h1, h2, h3⟩ := h
  exact ⟨v, h1, h2.is, ownCap h2, h3⟩
set_option maxRecDepth 100000 in
set_option maxHeartbeats 4000000 in
theorem clone_any (xs : List CV) (v : Value) (w : World) (hl : xs.length ≤ 900000) (h : RC.Is w v xs) : Calls Try.prog 58 #[v] w (AnsC xs w) := by
  obtain ⟨p, c, rfl⟩ := h.slice
  have HI := Lib.hid h
  cases p with
  | none =>
    have hx : xs = [] ∧ c = 0 := by
      rcases h with ⟨hx, q, d, e, hq⟩ | ⟨_, b, off, cap, e, _⟩
      · simp only [Value.slice.injEq] at e
        obtain ⟨rfl, _, rfl⟩ := e
        exact ⟨hx, hq rfl⟩
      · cases e
    obtain ⟨rfl, rfl⟩ := hx
    clear h HI
    show Calls _ _ #[.slice none 0 0] _ _
    clear hl
    go_enter Try.func58, Try.ntmps58
    go_wp2
    go_returns
    exact ⟨_, rfl, RowKind.Is.nil _, fun p n c e => by cases e; exact Nat.le_refl _, Below.refl _ _⟩
  | some ad =>
    clear h
    have HO := Lib.hid (show RC.Own w.heap.size (w.alloc (.cells #[] 52)) (.slice (some ⟨w.heap.size, 0, none⟩) 0 0) [] from World.ownsRow_made w #[] 0 (Nat.le_refl _) (Nat.zero_le _) rfl)
    have HB := Lib.hid ((Below.refl w.heap.size w).alloc (Nat.le_refl _) (.cells #[] 52))
    have HL : Hid (([] : List CV).length + xs.length ≤ 1000000) := by show _ ≤ _; simp; omega
    have HZ := Lib.hid HB.out.size
    have HI2 := Lib.hid (HI.out.below HB.out)
    generalize xs.length = n at HI HI2 ⊢
    go_enter Try.func58, Try.ntmps58
    go_wp2_with (at_builtin; refine RowKind.Own.appendAny (R := RC) (ys := xs) HO.out HB.out HZ.out rfl _ _ rfl rfl rfl HI2.out HL.out ?_; intro v2 w2 hO2 hB2 hz2)
    have HO2 := Lib.hid hO2; have HB2 := Lib.hid hB2
    go_returns
    exact ⟨_, rfl, HO2.out.is, ownCap HO2.out, HB2.out⟩
theorem there_take_succ {xs : List CV} {k : Nat} (hk : k < xs.length) : thereC (xs.take (k + 1)) = thereC (xs.take k) ++ (if 0 < (xs[k]!).n then [(xs[k]!).t] else []) := by
  unfold thereC
  rw [take_getA xs k hk, List.filter_append, List.map_append]
  split
  · rename_i h; rw [List.filter_cons_of_pos (by simpa using h)]; rfl
  · rename_i h; rw [List.filter_cons_of_neg (by simpa using h)]; rfl
theorem there_length (xs : List CV) : (thereC xs).length ≤ xs.length := by
  unfold thereC
  rw [List.length_map]
  exact List.length_filter_le _ _
set_option maxRecDepth 100000 in
set_option maxHeartbeats 4000000 in
theorem frontier_row (xs : List CV) (b off cap : Nat) (w : World) (hl : xs.length ≤ 900000) (hb : b < w.heap.size) (hr : RC.Row w b off xs) (h0 : xs ≠ []) :
    Calls Try.prog 36 #[.slice (some ⟨b, off, none⟩) xs.length cap] w (MadeT (frontC xs) w) := by
  have hrow : Hid (∀ (W : World), Below w.heap.size w W → ∀ j, j < xs.length → _) := fun W hW j hj => atC (hr.below hW hb) j hj
  have hRT := fright_any xs (.slice (some ⟨b, off, none⟩) xs.length cap) w hl (.inr ⟨h0, b, off, cap, rfl, hb, hr⟩)
  have hno : rightC xs = false → frontC xs = [] := fun h => by unfold frontC; rw [h]; rfl
  have hyes : rightC xs = true → frontC xs = ofT (thereC xs) := fun h => by unfold frontC; rw [h]; rfl
  have hOF : Hid (∀ (v : Value) (W : World), IsT W v (thereC xs) → _) := fun v W h => of_any (thereC xs) v W (Nat.le_trans (there_length xs) hl) h
  generalize rightC xs = q at hRT hno hyes
  generalize frontC xs = res at hno hyes ⊢
  have HRT := Lib.hid hRT; have HNo := Lib.hid hno; have HYes := Lib.hid hyes
  clear hr hRT hno hyes h0
  generalize hn : xs.length = n at hl HRT hrow
  have HN := Lib.hid hn
  clear hn
  go_enter Try.func36, Try.ntmps36
  go_wp2_with fail
  refine (HRT.out).mono ?_
  rintro e w1 ⟨rfl, hb1⟩
  have HB1 := Lib.hid hb1
  clear hb1 HRT
  cases q
  · go_wp2
    go_returns
    exact ⟨_, rfl, by rw [HNo.out (by trivial)]; exact OwnT.nil _ _, HB1.out⟩
  · go_wp2
    go_loopg [3, 11] n (fun gg v i wr => ∃ k : Nat, k ≤ n ∧ n - k ≤ gg ∧ i = .int .i64 k ∧ Hid (Below w.heap.size w wr) ∧ Hid (OwnT w.heap.size wr v (thereC (xs.take k))))
    case atStart => exact ⟨0, Nat.zero_le _, by omega, rfl, HB1.out, OwnT.nil _ _⟩
    case round =>
      obtain ⟨k, hkn, hg, rfl, HB, HO⟩ := hrel
      by_cases hlt : k < n
      · have hlz : (k : Int) < (n : Int) := by omega
        have hc := hrow.out wr HB.out k hlt
        have hts := there_take_succ (xs := xs) (k := k) (by rw [HN.out]; exact hlt)
        have hlen : (thereC (xs.take k)).length ≤ 900000 := by
          have h1 := there_length (xs.take k)
          rw [List.length_take] at h1
          omega
        generalize thereC (xs.take k) = acc at HO hts hlen
        generalize xs[k]! = c at hc hts
        obtain ⟨t, m⟩ := c
        obtain ⟨e0, e1, e2, e3, e4, e5⟩ := hc
        simp only at e0 e1 e2 e3 e4 e5 hts
        have hz := HB.out.size
        have HBn := Lib.hid ((HB.out).alloc hz (.cells #[.int .i64 t.d, .int .i64 t.c0, .int .i64 t.c1, .int .i64 t.c2, .int .i64 t.c3, .int .i64 m] 52))
        have HOn := Lib.hid (HO.out.alloc (.cells #[.int .i64 t.d, .int .i64 t.c0, .int .i64 t.c1, .int .i64 t.c2, .int .i64 t.c3, .int .i64 m] 52))
        have HZn := Lib.hid HBn.out.size
        clear hrow hOF
        by_cases hm : 0 < m
        · rw [if_pos hm] at hts
          have HTS := Lib.hid hts
          clear hts HO HB
          go_wp2_with (at_builtin; refine OwnT.push (y := t) HOn.out HBn.out HZn.out rfl _ _ rfl rfl _ (by show Value.slice (some ⟨wr.heap.size + 1, 0, none⟩) 1 1 = _; rw [World.size_alloc]) hlen ?_; intro v2 w2 hO2 hB2 hz2)
          go_roundg (n - (k + 1))
          case measure => omega
          case rel =>
            refine ⟨k + 1, by omega, by omega, by go_num, hB2, ?_⟩
            show OwnT _ _ _ _
            rw [HTS.out]
            exact hO2
        · rw [if_neg hm, List.append_nil] at hts
          have HTS := Lib.hid hts
          clear hts HO HB
          go_wp2
          go_roundg (n - (k + 1))
          case measure => omega
          case rel =>
            refine ⟨k + 1, by omega, by omega, by go_num, HBn.out, ?_⟩
            show OwnT _ _ _ _
            rw [HTS.out]
            exact HOn.out
      · have hlz : ¬ (k : Int) < (n : Int) := by omega
        have : k = n := by omega
        subst this
        have HX : Hid (OwnT w.heap.size wr u3 (thereC xs)) := by
          have h := HO.out
          rw [List.take_of_length_le (by rw [HN.out]; exact Nat.le_refl _)] at h
          exact h
        have HF := Lib.hid (hOF.out u3 wr HX.out.is)
        clear HO hrow hOF
        go_wp2_with fail
        refine (HF.out).mono ?_
        rintro e w4 ⟨v4, rfl, hO4, hB4⟩
        have HO4 := Lib.hid (hO4.mono HB.out.size)
        have HB4 := Lib.hid (HB.out.trans (hB4.mono HB.out.size))
        clear hO4 hB4 HF
        go_wp2
        go_returns
        exact ⟨_, rfl, by rw [HYes.out (by trivial)]; exact HO4.out, HB4.out⟩
set_option maxRecDepth 100000 in
set_option maxHeartbeats 4000000 in
theorem frontier_nil (p : Option Addr) (cap : Nat) (w : World) : Calls Try.prog 36 #[.slice p 0 cap] w (MadeT (frontC []) w) := by
  have HRT := Lib.hid (fright_nil p cap w)
  have hr : rightC [] = true := by decide
  have hf : frontC [] = ofT [] := by unfold frontC; rw [hr]; rfl
  rw [hr] at HRT
  rw [hf]
  have HF := Lib.hid (fun W => of_any [] (.slice none 0 0) W (by decide) (IsT.nil W))
  go_enter Try.func36, Try.ntmps36
  go_wp2_with fail
  refine (HRT.out).mono ?_
  rintro e w1 ⟨rfl, hb1⟩
  have HB1 := Lib.hid hb1
  clear hb1 HRT
  go_wp2
  refine wp_loop_rounds 1 ?_
  rw [rounds_succ]
  go_wp2_with fail
  refine (HF.out _).mono ?_
  rintro e w4 ⟨v4, rfl, hO4, hB4⟩
  have HO4 := Lib.hid (hO4.mono HB1.out.size)
  have HB4 := Lib.hid (HB1.out.trans (hB4.mono HB1.out.size))
  clear hO4 hB4 HF
  go_wp2
  go_returns
  exact ⟨_, rfl, HO4.out, HB4.out⟩
theorem frontier_any (xs : List CV) (v : Value) (w : World) (hl : xs.length ≤ 900000) (h : RC.Is w v xs) : Calls Try.prog 36 #[v] w (MadeT (frontC xs) w) := by
  rcases h with ⟨rfl, p, cap, rfl, _⟩ | ⟨h0, b, off, cap, rfl, hb, hr⟩
  · exact frontier_nil p cap w
  · exact frontier_row xs b off cap w hl hb hr h0
end Go.Proofs.Ytcaolilhemamiaa
