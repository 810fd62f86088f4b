import Derived.Test.YtcaolilhemamiaaCs
import Derived.Deep.LoopGhost
import Derived.Deep.Draws
import Derived.Deep.Light
namespace Go.Proofs.Ytcaolilhemamiaa
open Go.RowKit
set_option linter.unusedVariables false
set_option linter.unusedSimpArgs false

/- chain.Covers: a search by a closure that has caught the timestamp -/
structure BoxT (w : World) (b : Nat) (t : TV) : Prop where
  c : Own5 w b (.int .i64 t.d) (.int .i64 t.c0) (.int .i64 t.c1) (.int .i64 t.c2) (.int .i64 t.c3)
  l : b < w.heap.size
theorem BoxT.below {w w' : World} {b : Nat} {t : TV} (h : BoxT w b t) (hb : Below w.heap.size w w') : BoxT w' b t := ⟨h.c.below hb h.l, Nat.lt_of_lt_of_le h.l hb.size⟩
theorem BoxT.new (w : World) (t : TV) (ty : TypeId) : BoxT (w.alloc (.cells #[.int .i64 t.d, .int .i64 t.c0, .int .i64 t.c1, .int .i64 t.c2, .int .i64 t.c3] ty)) w.heap.size t := ⟨Own5.new w _ _ _ _ _ ty, by simp⟩

set_option maxHeartbeats 2000000 in
theorem closure_any (x t : TV) (B : Nat) (w : World) (h : BoxT w B t) : Calls Try.prog 53 #[x.val, .pointer (some ⟨B, 0, none⟩)] w (Ret (.bool (x.le t)) w) := by
  have HL := Lib.hid (fun W => tle_any x t W)
  have hn : B ≠ w.heap.size := Nat.ne_of_lt h.l
  have hn' := Ne.symm hn
  obtain ⟨⟨p0, p1, p2, p3, p4, q0, q1, q2, q3, q4⟩, hl⟩ := h
  generalize x.le t = r at HL ⊢
  go_enter Try.func53, Try.ntmps53
  go_wp2_with fail
  refine (HL.out _).mono ?_
  rintro e w1 ⟨rfl, hb1⟩
  have hB := bcall (B := w.heap.size) (a := w) (by go_grown) hb1 (by go_size)
  clear hb1 p0 p1 p2 p3 p4 q0 q1 q2 q3 q4
  go_wp2
  go_returns
  exact ⟨rfl, hB⟩

theorem cov_take_false {xs : List TV} {t : TV} {k : Nat} (hk : k < xs.length) (h : cov (xs.take k) t = false) (hx : (xs[k]!).le t = false) : cov (xs.take (k + 1)) t = false := by
  rw [take_get xs k hk, cov_append, h]
  simp only [cov, List.any_cons, List.any_nil, hx]
  rfl
theorem cov_hit {xs : List TV} {t : TV} {k : Nat} (hk : k < xs.length) (hx : (xs[k]!).le t = true) : cov xs t = true :=
  cov_iff.2 ⟨xs[k]!, by rw [getElem!_pos xs k hk]; exact List.getElem_mem hk, hx⟩
def IndexPost (xs : List TV) (t : TV) (w : World) (e : Ending) (w' : World) : Prop := ∃ r : Int, e = .returned (.int .i64 r) ∧ decide (0 ≤ r) = cov xs t ∧ Below w.heap.size w w'
set_option maxRecDepth 100000 in
set_option maxHeartbeats 4000000 in
theorem index_row (xs : List TV) (t : TV) (b off cap B : Nat) (w : World) (hl : xs.length ≤ 900000) (hb : b < w.heap.size) (hr : RowT w b off xs) (hB : BoxT w B t) :
    Calls Try.prog 65 #[.slice (some ⟨b, off, none⟩) xs.length cap, .func (.func 53) #[] #[.pointer (some ⟨B, 0, none⟩)]] w (IndexPost xs t w) := by
  have hrow : Hid (∀ (W : World), Below w.heap.size w W → ∀ j, j < xs.length → _) := fun W hW j hj => (hr.below hW hb).at j hj
  have hcl : Hid (∀ (W : World) (x : TV), Below w.heap.size w W → _) := fun W x hW => closure_any x t B W (⟨hB.c.below hW hB.l, Nat.lt_of_lt_of_le hB.l hW.size⟩)
  clear hr hB
  generalize hn : xs.length = n at hl
  have HN := Lib.hid hn
  clear hn
  go_enter Try.func65, Try.ntmps65
  go_wp2
  go_loopg [8] n (fun gg i wr => ∃ k : Nat, k ≤ n ∧ n - k ≤ gg ∧ i = .int .i64 k ∧ Hid (Below w.heap.size w wr) ∧ Hid (cov (xs.take k) t = false))
  case atStart => exact ⟨0, Nat.zero_le _, by omega, rfl, Below.refl _ _, rfl⟩
  case round =>
    obtain ⟨k, hkn, hg, rfl, HB, HC⟩ := hrel
    by_cases hlt : k < n
    · have hlz : (k : Int) < (n : Int) := by omega
      have hc := hrow.out wr HB.out k (by rw [HN.out]; exact hlt)
      have hcall := hcl.out wr xs[k]! HB.out
      have hhit := fun h => cov_hit (xs := xs) (t := t) (k := k) (by rw [HN.out]; exact hlt) h
      have hmiss := fun h => cov_take_false (xs := xs) (t := t) (k := k) (by rw [HN.out]; exact hlt) HC.out h
      generalize xs[k]! = y at hc hcall hhit hmiss
      obtain ⟨e0, e1, e2, e3, e4⟩ := hc
      clear hrow hcl
      cases hq : y.le t
      · rw [hq] at hcall
        have HM := Lib.hid (hmiss hq)
        have HK := Lib.hid hcall
        clear hmiss hhit hcall hq
        go_wp2_with fail
        refine (HK.out).mono ?_
        rintro e w1 ⟨rfl, hb1⟩
        have HB1 := Lib.hid (HB.out.trans (hb1.mono HB.out.size))
        clear hb1 e0 e1 e2 e3 e4
        go_wp2
        go_roundg (n - (k + 1))
        case measure => omega
        case rel => exact ⟨k + 1, by omega, by omega, by go_num, HB1.out, HM.out⟩
      · rw [hq] at hcall
        have HM := Lib.hid (hhit hq)
        have HK := Lib.hid hcall
        clear hmiss hhit hcall hq
        go_wp2_with fail
        refine (HK.out).mono ?_
        rintro e w1 ⟨rfl, hb1⟩
        have HB1 := Lib.hid (HB.out.trans (hb1.mono HB.out.size))
        clear hb1 e0 e1 e2 e3 e4
        go_wp2
        go_returns
        exact ⟨_, rfl, by rw [HM.out]; exact decide_eq_true (by omega), HB1.out⟩
    · have hlz : ¬ (k : Int) < (n : Int) := by omega
      have : k = n := by omega
      subst this
      have HX : Hid (cov xs t = false) := by
        have h := HC.out
        rw [List.take_of_length_le (by rw [HN.out]; exact Nat.le_refl _)] at h
        exact h
      clear HC hrow hcl
      go_wp2
      go_returns
      exact ⟨_, rfl, by rw [HX.out]; rfl, HB.out⟩
set_option maxHeartbeats 2000000 in
theorem index_nil (t : TV) (p : Option Addr) (cap : Nat) (fv : Value) (w : World) :
    Calls Try.prog 65 #[.slice p 0 cap, fv] w (IndexPost [] t w) := by
  go_enter Try.func65, Try.ntmps65
  go_wp2
  refine wp_loop_rounds 1 ?_
  rw [rounds_succ]
  go_wp2
  go_returns
  exact ⟨_, rfl, rfl, Below.refl _ _⟩
theorem index_any (xs : List TV) (t : TV) (v : Value) (B : Nat) (w : World) (hl : xs.length ≤ 900000) (h : IsT w v xs) (hB : BoxT w B t) :
    Calls Try.prog 65 #[v, .func (.func 53) #[] #[.pointer (some ⟨B, 0, none⟩)]] w (IndexPost xs t w) := by
  rcases h with ⟨rfl, p, cap, rfl, _⟩ | ⟨_, b, off, cap, rfl, hb, hr⟩
  · exact index_nil t p cap _ w
  · exact index_row xs t b off cap B w hl hb hr hB
set_option maxHeartbeats 2000000 in
theorem contains_any (xs : List TV) (t : TV) (v : Value) (B : Nat) (w : World) (hl : xs.length ≤ 900000) (h : IsT w v xs) (hB : BoxT w B t) :
    Calls Try.prog 52 #[v, .func (.func 53) #[] #[.pointer (some ⟨B, 0, none⟩)]] w (Ret (.bool (cov xs t)) w) := by
  have HI := Lib.hid (index_any xs t v B w hl h hB)
  obtain ⟨p, c, rfl⟩ := h.slice
  clear h hB hl
  generalize xs.length = n at HI ⊢
  go_enter Try.func52, Try.ntmps52
  go_wp2_with fail
  refine (HI.out).mono ?_
  rintro e w1 ⟨r, rfl, hr, hb1⟩
  have HR := Lib.hid hr
  clear hr HI
  go_wp2
  go_returns
  exact ⟨ret_bool HR.out, hb1⟩
set_option maxHeartbeats 2000000 in
theorem covers_any (xs : List TV) (t : TV) (v : Value) (w : World) (hl : xs.length ≤ 900000) (h : IsT w v xs) : Calls Try.prog 22 #[v, t.val] w (Ret (.bool (cov xs t)) w) := by
  have HB0 : ∀ o, Below w.heap.size w (w.alloc o) := fun o => (Below.refl _ w).alloc (Nat.le_refl _) o
  have HI := Lib.hid (fun ty => contains_any xs t v w.heap.size (w.alloc (.cells #[.int .i64 t.d, .int .i64 t.c0, .int .i64 t.c1, .int .i64 t.c2, .int .i64 t.c3] ty)) hl (h.below (HB0 _)) (BoxT.new w t ty))
  obtain ⟨p, c, rfl⟩ := h.slice
  clear h hl
  generalize xs.length = n at HI ⊢
  generalize cov xs t = r at HI ⊢
  have HB := Lib.hid HB0
  clear HB0
  go_enter Try.func22, Try.ntmps22
  go_wp2_with fail
  refine (HI.out _).mono ?_
  rintro e w1 ⟨rfl, hb1⟩
  have HB2 := Lib.hid ((HB.out _).trans (hb1.mono (HB.out _).size))
  clear HI hb1
  go_wp2
  go_returns
  exact ⟨rfl, HB2.out⟩
end Go.Proofs.Ytcaolilhemamiaa
