/- graph.programFits, nodesFit, edgesFit -/
import Derived.Test.YtdhmoiiagplbpaaVx
import Derived.Test.YtdhmoiiagplbpaaBoxG
namespace Go.Proofs.Ytdhmoiiagplbpaa
open Go.RowKit
set_option linter.unusedVariables false
set_option linter.unusedSimpArgs false

theorem lit_row (W : World) (xs : List Int) (t : TypeId) : RN.Row (W.alloc (.cells (xs.map (Value.int .i64)).toArray t)) W.heap.size 0 xs := by
  intro j hj i u hu
  have hi : i = 0 := by
    have := (List.getElem?_eq_some_iff.1 hu).1
    have h1 : (RN.enc xs[j]!).length = 1 := rfl
    omega
  subst hi
  have hu : some (Value.int .i64 xs[j]!) = some u := hu
  rw [← hu]
  unfold World.cell?
  rw [heap_alloc_new]
  have e : RN.k = 1 := rfl
  simp [e, hj]
theorem small_lit (xs : List Int) (W : World) (s n : Nat) (t : TypeId) (hs : s = W.heap.size) (hn : n = xs.length) (hl : xs.length ≤ 900000) :
    Calls Try.prog 38 #[.slice (some ⟨s, 0, none⟩) n n] (W.alloc (.cells (xs.map (Value.int .i64)).toArray t)) (RetW (.bool (decide (∀ x ∈ xs, lowN x))) (W.alloc (.cells (xs.map (Value.int .i64)).toArray t))) := by
  subst hs; subst hn
  exact small_row xs W.heap.size 0 xs.length _ hl (lit_row W xs t)
theorem put_lit (xs : List Int) (B : Nat) (v : Value) (bs : List Int) (W : World) (s n : Nat) (t : TypeId) (hs : s = W.heap.size) (hn : n = xs.length) (hv : ∀ x ∈ xs, 0 ≤ x ∧ x < 9223372036854775808) (hl : bs.length + 10 * xs.length ≤ 900000) (ho : OwnF B W v bs) (hB : B ≤ W.heap.size) :
    Calls Try.prog 40 #[v, .slice (some ⟨s, 0, none⟩) n n] (W.alloc (.cells (xs.map (Value.int .i64)).toArray t)) (PutR B W v (bs ++ flatN xs)) := by
  subst hs; subst hn
  have hb : Below W.heap.size W (W.alloc (.cells (xs.map (Value.int .i64)).toArray t)) := (Below.refl _ _).alloc (Nat.le_refl _) _
  refine (put_any xs B W.heap.size 0 xs.length v bs _ (lit_row W xs t) (by simp) (fun e => by have := (ho.lt _ e).2; omega) hv hl (ho.alloc _) (Nat.le_trans hB hb.size)).mono ?_
  rintro e w' ⟨v', h1, h2, h3⟩
  exact ⟨v', h1, h2, (Appd.ofBelow hb v).trans h3⟩
def fitsP (p : List NV) : Prop := p.length ≤ 64 ∧ ∀ y ∈ p, lowN y.op
instance (p : List NV) : Decidable (fitsP p) := by unfold fitsP; infer_instance
theorem all_no {α : Type} [Inhabited α] (xs : List α) (P : α → Prop) [∀ x, Decidable (P x)] (m : Nat) (j : Nat) (hj : j < xs.length) (h : ¬ P xs[j]!) : decide (xs.length ≤ m ∧ ∀ x ∈ xs, P x) = false :=
  decide_eq_false (fun q => h (q.2 _ (by rw [getElem!_pos xs j hj]; exact List.getElem_mem _)))
theorem all_yes {α : Type} [Inhabited α] (xs : List α) (P : α → Prop) [∀ x, Decidable (P x)] (m : Nat) (hm : xs.length ≤ m) (h : ∀ j, j < xs.length → P xs[j]!) : decide (xs.length ≤ m ∧ ∀ x ∈ xs, P x) = true :=
  decide_eq_true ⟨hm, fun x hx => by
    obtain ⟨j, hj, rfl⟩ := List.getElem_of_mem hx
    have := h j hj
    rw [getElem!_pos xs j hj] at this
    exact this⟩

set_option maxRecDepth 100000 in
set_option maxHeartbeats 8000000 in
theorem pfits_row (xs : List NV) (b off cap : Nat) (w : World) (hl : xs.length ≤ 64) (hb : b < w.heap.size) (hr : RC.Row w b off xs) :
    Calls Try.prog 39 #[.slice (some ⟨b, off, none⟩) xs.length cap] w (Ret (.bool (decide (xs.length ≤ 64 ∧ ∀ x ∈ xs, lowN x.op))) w) := by
  have HRow := Lib.hid (fun (W : World) (hW : Below w.heap.size w W) j (hj : j < xs.length) => atC7 (hr.below hW hb) j hj)
  have HNo := Lib.hid (fun j (hj : j < xs.length) (h : ¬ lowN xs[j]!.op) => all_no xs (fun x => lowN x.op) 64 j hj h)
  have HYes := Lib.hid (fun (h : ∀ j, j < xs.length → lowN xs[j]!.op) => all_yes xs (fun x => lowN x.op) 64 hl h)
  generalize decide (xs.length ≤ 64 ∧ ∀ x ∈ xs, lowN x.op) = res at *
  generalize hn : xs.length = n at *
  clear hn
  have hg0 : ¬ (n : Int) > 64 := by omega
  clear hr
  go_enter Try.func39, Try.ntmps39
  go_wp2
  go_loopg [10] n (fun gg i wr => ∃ k : Nat, k ≤ n ∧ n - k ≤ gg ∧ i = .int .i64 k ∧ Hid (Below w.heap.size w wr) ∧ Hid (∀ j, j < k → lowN xs[j]!.op))
  case atStart => exact ⟨0, Nat.zero_le _, by omega, rfl, Below.refl _ _, fun j hj => absurd hj (by omega)⟩
  case round =>
    clear hg0
    obtain ⟨k, hkn, hg, rfl, HB, HC⟩ := hrel
    by_cases hlt : k < n
    · have hlz : (k : Int) < (n : Int) := by omega
      have hc := HRow.out wr HB.out k hlt
      have hno := HNo.out k hlt
      have hyes := fun (h : lowN xs[k]!.op) => show ∀ j, j < k + 1 → lowN xs[j]!.op from fun j hj => by
        by_cases e : j = k
        · subst e; exact h
        · exact HC.out j (by omega)
      generalize xs[k]! = x at hc hno hyes
      obtain ⟨x0, x1⟩ := x
      obtain ⟨c0, c1⟩ := hc
      simp only at c0 c1 hno hyes
      have HB1 := Lib.hid ((HB.out.alloc HB.out.size (.cells #[.int .i64 x0, .int .i64 x1] 56)).alloc (by simp; have := HB.out.size; omega) (.cells #[.int .i64 x0] 3))
      have HS := Lib.hid (small_lit [x0] (wr.alloc (.cells #[.int .i64 x0, .int .i64 x1] 56)) (wr.heap.size + 1) 1 3 (by simp) rfl (by simp))
      have hd : decide (∀ x ∈ [x0], lowN x) = decide (lowN x0) := by simp
      rw [hd] at HS
      clear hd HC HRow HNo
      by_cases h0 : lowN x0
      · have HR := Lib.hid (hyes h0)
        rw [decide_eq_true h0] at HS
        clear hno hyes h0
        go_wp2_with fail
        refine (HS.out).mono ?_
        rintro ee w1 ⟨rfl, rfl⟩
        go_wp2
        go_roundg (n - (k + 1))
        case measure => omega
        case rel => exact ⟨k + 1, by omega, by omega, by go_num, HB1.out, HR.out⟩
      · have HR := Lib.hid (hno h0)
        rw [decide_eq_false h0] at HS
        clear hno hyes h0
        go_wp2_with fail
        refine (HS.out).mono ?_
        rintro ee w1 ⟨rfl, rfl⟩
        go_wp2
        go_returns
        exact ⟨ret_bool HR.out.symm, HB1.out⟩
    · have hlz : ¬ (k : Int) < (n : Int) := by omega
      have HX := Lib.hid (HYes.out (fun j hj => HC.out j (by omega)))
      clear HC HRow HNo HYes
      go_wp2
      go_returns
      exact ⟨ret_bool HX.out.symm, HB.out⟩
set_option maxHeartbeats 2000000 in
theorem pfits_long (n : Nat) (p : Option Addr) (cap : Nat) (w : World) (h : 64 < n) : Calls Try.prog 39 #[.slice p n cap] w (Ret (.bool false) w) := by
  have hg0 : (n : Int) > 64 := by omega
  go_enter Try.func39, Try.ntmps39
  go_wp2
  go_returns
  exact ⟨rfl, Below.refl _ _⟩
set_option maxHeartbeats 2000000 in
theorem pfits_nil (p : Option Addr) (cap : Nat) (w : World) : Calls Try.prog 39 #[.slice p 0 cap] w (Ret (.bool true) w) := by
  go_enter Try.func39, Try.ntmps39
  go_wp2
  refine wp_loop_rounds 1 ?_
  rw [rounds_succ]
  go_wp2
  go_returns
  exact ⟨rfl, Below.refl _ _⟩
theorem pfits_any (p : List NV) (v : Value) (w : World) (h : RC.Is w v p) : Calls Try.prog 39 #[v] w (Ret (.bool (decide (fitsP p))) w) := by
  rw [show decide (fitsP p) = decide (p.length ≤ 64 ∧ ∀ y ∈ p, lowN y.op) from decide_eq_decide.2 Iff.rfl]
  by_cases hl : p.length ≤ 64
  · rcases h with ⟨rfl, q, cap, rfl, _⟩ | ⟨_, b, off, cap, rfl, hb, hr⟩
    · rw [decide_eq_true ⟨by simp, fun x hx => absurd hx (by simp)⟩]
      exact pfits_nil q cap w
    · exact pfits_row p b off cap w hl hb hr
  · obtain ⟨q, c, rfl⟩ := h.slice
    rw [decide_eq_false (fun q => hl q.1)]
    exact pfits_long _ q c w (by omega)

set_option maxRecDepth 100000 in
set_option maxHeartbeats 8000000 in
theorem efits_row (xs : List GE) (b off cap : Nat) (w : World) (hl : xs.length ≤ 64) (hb : b < w.heap.size) (hr : RE.Row w b off xs) :
    Calls Try.prog 18 #[.slice (some ⟨b, off, none⟩) xs.length cap] w (Ret (.bool (decide (xs.length ≤ 64 ∧ ∀ x ∈ xs, fitsE x))) w) := by
  have HRow := Lib.hid (fun (W : World) (hW : Below w.heap.size w W) j (hj : j < xs.length) => atE (hr.below hW hb) j hj)
  have HNo := Lib.hid (fun j (hj : j < xs.length) (h : ¬ fitsE xs[j]!) => all_no xs (fun x => fitsE x) 64 j hj h)
  have HYes := Lib.hid (fun (h : ∀ j, j < xs.length → fitsE xs[j]!) => all_yes xs (fun x => fitsE x) 64 hl h)
  generalize decide (xs.length ≤ 64 ∧ ∀ x ∈ xs, fitsE x) = res at *
  generalize hn : xs.length = n at *
  clear hn
  have hg0 : ¬ (n : Int) > 64 := by omega
  clear hr
  go_enter Try.func18, Try.ntmps18
  go_wp2
  go_loopg [10] n (fun gg i wr => ∃ k : Nat, k ≤ n ∧ n - k ≤ gg ∧ i = .int .i64 k ∧ Hid (Below w.heap.size w wr) ∧ Hid (∀ j, j < k → fitsE xs[j]!))
  case atStart => exact ⟨0, Nat.zero_le _, by omega, rfl, Below.refl _ _, fun j hj => absurd hj (by omega)⟩
  case round =>
    clear hg0
    obtain ⟨k, hkn, hg, rfl, HB, HC⟩ := hrel
    by_cases hlt : k < n
    · have hlz : (k : Int) < (n : Int) := by omega
      have hc := HRow.out wr HB.out k hlt
      have hno := HNo.out k hlt
      have hyes := fun (h : fitsE xs[k]!) => show ∀ j, j < k + 1 → fitsE xs[j]! from fun j hj => by
        by_cases e : j = k
        · subst e; exact h
        · exact HC.out j (by omega)
      generalize xs[k]! = x at hc hno hyes
      obtain ⟨x0, x1, x2, x3⟩ := x
      obtain ⟨c0, c1, c2, c3⟩ := hc
      unfold fitsE at hno hyes
      simp only at c0 c1 c2 c3 hno hyes
      have HB1 := Lib.hid ((HB.out.alloc HB.out.size (.cells #[.int .i64 x0, .int .i64 x1, .int .i64 x2, .bool x3] 58)).alloc (by simp; have := HB.out.size; omega) (.cells #[.int .i64 x0, .int .i64 x1, .int .i64 x2] 3))
      have HS := Lib.hid (small_lit [x0, x1, x2] (wr.alloc (.cells #[.int .i64 x0, .int .i64 x1, .int .i64 x2, .bool x3] 58)) (wr.heap.size + 1) 3 3 (by simp) rfl (by simp))
      have hd : decide (∀ x ∈ [x0, x1, x2], lowN x) = decide (lowN x0 ∧ lowN x1 ∧ lowN x2) := by simp
      rw [hd] at HS
      clear hd HC HRow HNo
      by_cases h0 : lowN x0 ∧ lowN x1 ∧ lowN x2
      · have HR := Lib.hid (hyes h0)
        rw [decide_eq_true h0] at HS
        clear hno hyes h0
        go_wp2_with fail
        refine (HS.out).mono ?_
        rintro ee w1 ⟨rfl, rfl⟩
        go_wp2
        go_roundg (n - (k + 1))
        case measure => omega
        case rel => exact ⟨k + 1, by omega, by omega, by go_num, HB1.out, HR.out⟩
      · have HR := Lib.hid (hno h0)
        rw [decide_eq_false h0] at HS
        clear hno hyes h0
        go_wp2_with fail
        refine (HS.out).mono ?_
        rintro ee w1 ⟨rfl, rfl⟩
        go_wp2
        go_returns
        exact ⟨ret_bool HR.out.symm, HB1.out⟩
    · have hlz : ¬ (k : Int) < (n : Int) := by omega
      have HX := Lib.hid (HYes.out (fun j hj => HC.out j (by omega)))
      clear HC HRow HNo HYes
      go_wp2
      go_returns
      exact ⟨ret_bool HX.out.symm, HB.out⟩
set_option maxHeartbeats 2000000 in
theorem efits_long (n : Nat) (p : Option Addr) (cap : Nat) (w : World) (h : 64 < n) : Calls Try.prog 18 #[.slice p n cap] w (Ret (.bool false) w) := by
  have hg0 : (n : Int) > 64 := by omega
  go_enter Try.func18, Try.ntmps18
  go_wp2
  go_returns
  exact ⟨rfl, Below.refl _ _⟩
set_option maxHeartbeats 2000000 in
theorem efits_nil (p : Option Addr) (cap : Nat) (w : World) : Calls Try.prog 18 #[.slice p 0 cap] w (Ret (.bool true) w) := by
  go_enter Try.func18, Try.ntmps18
  go_wp2
  refine wp_loop_rounds 1 ?_
  rw [rounds_succ]
  go_wp2
  go_returns
  exact ⟨rfl, Below.refl _ _⟩
theorem efits_any (p : List GE) (v : Value) (w : World) (h : RE.Is w v p) : Calls Try.prog 18 #[v] w (Ret (.bool (decide (p.length ≤ 64 ∧ ∀ x ∈ p, fitsE x))) w) := by
  by_cases hl : p.length ≤ 64
  · rcases h with ⟨rfl, q, cap, rfl, _⟩ | ⟨_, b, off, cap, rfl, hb, hr⟩
    · rw [decide_eq_true ⟨by simp, fun x hx => absurd hx (by simp)⟩]
      exact efits_nil q cap w
    · exact efits_row p b off cap w hl hb hr
  · obtain ⟨q, c, rfl⟩ := h.slice
    rw [decide_eq_false (fun q => hl q.1)]
    exact efits_long _ q c w (by omega)

set_option maxRecDepth 100000 in
set_option maxHeartbeats 8000000 in
theorem nfits_row (xs : List NW) (gs : List GN) (b off cap : Nat) (w : World) (hl : xs.length ≤ 32) (hb : b < w.heap.size) (hr : RW.Row w b off xs) (ha : areN w xs gs) :
    Calls Try.prog 17 #[.slice (some ⟨b, off, none⟩) xs.length cap] w (Ret (.bool (decide (gs.length ≤ 32 ∧ ∀ x ∈ gs, fitsN x))) w) := by
  have HRow := Lib.hid (fun (W : World) (hW : Below w.heap.size w W) j (hj : j < xs.length) => atW (hr.below hW hb) j hj)
  have HP := Lib.hid (fun j (hj : j < gs.length) (W : World) (hW : Below w.heap.size w W) => pfits_any gs[j]!.prog _ W ((ha.2 j hj).2.2.2.below hW))
  have HE := Lib.hid (fun j (hj : j < gs.length) => show xs[j]!.kind = gs[j]!.kind ∧ xs[j]!.scope = gs[j]!.scope from ⟨(ha.2 j hj).1, (ha.2 j hj).2.1⟩)
  have HNo := Lib.hid (fun j (hj : j < gs.length) (h : ¬ fitsN gs[j]!) => all_no gs (fun x => fitsN x) 32 j hj h)
  have HYes := Lib.hid (fun (h : ∀ j, j < gs.length → fitsN gs[j]!) => all_yes gs (fun x => fitsN x) 32 (by rw [← ha.1]; exact hl) h)
  generalize decide (gs.length ≤ 32 ∧ ∀ x ∈ gs, fitsN x) = res at *
  have hag := ha.1
  clear ha
  generalize hn : xs.length = n at *
  have HG := Lib.hid hag
  clear hn hag
  have hg0 : ¬ (n : Int) > 32 := by omega
  clear hr
  go_enter Try.func17, Try.ntmps17
  go_wp2
  go_loopg [10] n (fun gg i wr => ∃ k : Nat, k ≤ n ∧ n - k ≤ gg ∧ i = .int .i64 k ∧ Hid (Below w.heap.size w wr) ∧ Hid (∀ j, j < k → fitsN gs[j]!))
  case atStart => exact ⟨0, Nat.zero_le _, by omega, rfl, Below.refl _ _, fun j hj => absurd hj (by omega)⟩
  case round =>
    clear hg0
    obtain ⟨k, hkn, hg, rfl, HB, HC⟩ := hrel
    by_cases hlt : k < n
    · have hlz : (k : Int) < (n : Int) := by omega
      have hc := HRow.out wr HB.out k hlt
      have hno := HNo.out k (by rw [← HG.out]; exact hlt)
      have hyes := fun (h : fitsN gs[k]!) => show ∀ j, j < k + 1 → fitsN gs[j]! from fun j hj => by
        by_cases e : j = k
        · subst e; exact h
        · exact HC.out j (by omega)
      have hPf := HP.out k (by rw [← HG.out]; exact hlt)
      have hE := HE.out k (by rw [← HG.out]; exact hlt)
      generalize xs[k]! = x at *
      generalize gs[k]! = g at *
      obtain ⟨k1, s1, a1, p1, n1, c1⟩ := x
      obtain ⟨gk, gs1, ga, gp⟩ := g
      obtain ⟨x0, x1, x2, x3⟩ := hc
      unfold fitsN at hno hyes
      simp only at x0 x1 x2 x3 hno hyes hE hPf
      obtain ⟨rfl, rfl⟩ := hE
      have HB1 := Lib.hid ((HB.out.alloc HB.out.size (.cells #[.int .i64 k1, .int .i64 s1, .int .i64 a1, .slice p1 n1 c1] 46)).alloc (by simp; have := HB.out.size; omega) (.cells #[.int .i64 k1, .int .i64 s1] 3))
      have HS := Lib.hid (small_lit [k1, s1] (wr.alloc (.cells #[.int .i64 k1, .int .i64 s1, .int .i64 a1, .slice p1 n1 c1] 46)) (wr.heap.size + 1) 2 3 (by simp) rfl (by simp))
      have hd : decide (∀ x ∈ [k1, s1], lowN x) = decide (lowN k1 ∧ lowN s1) := by simp
      rw [hd] at HS
      have HPf := Lib.hid (hPf _ HB1.out)
      clear hd HC HRow HNo hPf HP
      by_cases h0 : lowN k1 ∧ lowN s1
      · rw [decide_eq_true h0] at HS
        have z3 : ((wr.alloc (.cells #[.int .i64 k1, .int .i64 s1, .int .i64 a1, .slice p1 n1 c1] 46)).alloc (.cells #[.int .i64 k1, .int .i64 s1] 3)).cell? ⟨wr.heap.size, 3, none⟩ = some (.slice p1 n1 c1) := rowOf_cell (row_old (row_new rfl)) 3
        by_cases h1 : fitsP gp
        · have HR := Lib.hid (hyes ⟨h0.1, h0.2, h1.1, h1.2⟩)
          rw [decide_eq_true h1] at HPf
          clear hno hyes h0 h1
          go_wp2_with fail
          refine (HS.out).mono ?_
          rintro ee w1 ⟨rfl, rfl⟩
          go_wp2_with fail
          refine (HPf.out).mono ?_
          rintro ee w1 ⟨rfl, hb1⟩
          replace HB1 := Lib.hid (HB1.out.trans (hb1.mono HB1.out.size))
          clear hb1 HPf HS z3
          go_wp2
          go_roundg (n - (k + 1))
          case measure => omega
          case rel => exact ⟨k + 1, by omega, by omega, by go_num, HB1.out, HR.out⟩
        · have HR := Lib.hid (hno (fun q => h1 ⟨q.2.2.1, q.2.2.2⟩))
          rw [decide_eq_false h1] at HPf
          clear hno hyes h0 h1
          go_wp2_with fail
          refine (HS.out).mono ?_
          rintro ee w1 ⟨rfl, rfl⟩
          go_wp2_with fail
          refine (HPf.out).mono ?_
          rintro ee w1 ⟨rfl, hb1⟩
          replace HB1 := Lib.hid (HB1.out.trans (hb1.mono HB1.out.size))
          clear hb1 HPf HS z3
          go_wp2
          go_returns
          exact ⟨ret_bool HR.out.symm, HB1.out⟩
      · have HR := Lib.hid (hno (fun q => h0 ⟨q.1, q.2.1⟩))
        rw [decide_eq_false h0] at HS
        clear hno hyes h0
        go_wp2_with fail
        refine (HS.out).mono ?_
        rintro ee w1 ⟨rfl, rfl⟩
        go_wp2
        go_returns
        exact ⟨ret_bool HR.out.symm, HB1.out⟩
    · have hlz : ¬ (k : Int) < (n : Int) := by omega
      have HX := Lib.hid (HYes.out (fun j hj => HC.out j (by rw [← HG.out] at hj; omega)))
      clear HC HRow HNo HYes
      go_wp2
      go_returns
      exact ⟨ret_bool HX.out.symm, HB.out⟩
set_option maxHeartbeats 2000000 in
theorem nfits_long (n : Nat) (p : Option Addr) (cap : Nat) (w : World) (h : 32 < n) : Calls Try.prog 17 #[.slice p n cap] w (Ret (.bool false) w) := by
  have hg0 : (n : Int) > 32 := by omega
  go_enter Try.func17, Try.ntmps17
  go_wp2
  go_returns
  exact ⟨rfl, Below.refl _ _⟩
set_option maxHeartbeats 2000000 in
theorem nfits_nil (p : Option Addr) (cap : Nat) (w : World) : Calls Try.prog 17 #[.slice p 0 cap] w (Ret (.bool true) w) := by
  go_enter Try.func17, Try.ntmps17
  go_wp2
  refine wp_loop_rounds 1 ?_
  rw [rounds_succ]
  go_wp2
  go_returns
  exact ⟨rfl, Below.refl _ _⟩
theorem nfits_any (gs : List GN) (v : Value) (w : World) (h : IsNs w v gs) : Calls Try.prog 17 #[v] w (Ret (.bool (decide (gs.length ≤ 32 ∧ ∀ x ∈ gs, fitsN x))) w) := by
  obtain ⟨xs, h, ha⟩ := h
  by_cases hl : xs.length ≤ 32
  · rcases h with ⟨rfl, q, cap, rfl, _⟩ | ⟨_, b, off, cap, rfl, hb, hr⟩
    · obtain rfl : gs = [] := List.length_eq_zero_iff.1 ha.1.symm
      rw [decide_eq_true ⟨by simp, fun x hx => absurd hx (by simp)⟩]
      exact nfits_nil q cap w
    · exact nfits_row xs gs b off cap w hl hb hr ha
  · obtain ⟨q, c, rfl⟩ := h.slice
    rw [decide_eq_false (fun q => hl (by rw [ha.1]; exact q.1))]
    exact nfits_long _ q c w (by omega)
end Go.Proofs.Ytdhmoiiagplbpaa
