import Derived.Test.YtcaolilhemamiaaFp
import Derived.Test.YtcaolilhemamiaaFs
import Derived.Test.YtcaolilhemamiaaFe
import Derived.Test.YtcaolilhemamiaaCx
import Derived.Test.YtcaolilhemamiaaCy
import Derived.Laws.StructEq
import Derived.Test.YtcaolilhemamiaaRowKeep
import Derived.Laws.MakeOwn
import Derived.Test.YtcaolilhemamiaaCz2
import Derived.Deep.RegionHeldLaw
import Derived.Test.YtcaolilhemamiaaFk
import Derived.Deep.CutRange
/- the document's Add on counts, as plain facts -/
namespace Go.Proofs.Ytcaolilhemamiaa
open Go.RowKit
set_option linter.unusedVariables false
set_option linter.unusedSimpArgs false

/-- what stands behind the counts that were gone through -/
def restG (R : List CV) (t : TV) (n : Int) (d : Bool) : List CV := if d = true ∨ n = 0 then R else mergedC R [⟨t, n⟩]
structure AddG (b : List CV) (t : TV) (n : Int) (k : Nat) (out : List CV) (d : Bool) : Prop where
  res : (if n = 0 then b else mergedC b [⟨t, n⟩]) = out ++ restG (b.drop k) t n d
  open_ : d = false → out = b.take k
  done : d = true → ∀ x ∈ b.drop k, t.lt x.t = true
  len : out.length ≤ k + 1
theorem addG_start (b : List CV) (t : TV) (n : Int) : AddG b t n 0 [] false := by
  refine ⟨?_, fun _ => rfl, fun h => (by cases h), by simp⟩
  unfold restG
  by_cases h : n = 0
  · rw [if_pos h, if_pos (.inr h)]; rfl
  · rw [if_neg h, if_neg (by simp [h])]; rfl
theorem dropC_get {b : List CV} {k : Nat} (hk : k < b.length) : b.drop k = b[k]! :: b.drop (k + 1) := by
  rw [getElem!_pos b k hk]; exact List.drop_eq_getElem_cons hk
theorem goodC_drop {b : List CV} (hb : goodC b) (k : Nat) : goodC (b.drop k) := ⟨fun c hc => hb.1 c (List.mem_of_mem_drop hc), hb.2.sublist (List.drop_sublist _ _)⟩
theorem goodC_low {c : CV} {f : List CV} (h : goodC (c :: f)) : ∀ d ∈ f, c.t.lt d.t = true := (List.pairwise_cons.1 h.2).1
theorem TV.lt_asym {a b : TV} (h : a.lt b = true) : b.lt a = false := by
  cases q : b.lt a
  · rfl
  · have := TV.lt_trans h q
    rw [TV.lt_irrefl] at this; cases this
section
variable {b : List CV} {t : TV} {n : Int} {k : Nat} {out : List CV} {d : Bool}
theorem addG_pass (ht : t.ok = true) (hb : goodC b) (h : AddG b t n k out d) (hk : k < b.length) (hne : ¬ (b[k]!).t = t) (hl : d = true ∨ n = 0 ∨ t.lt (b[k]!).t = false) : AddG b t n (k + 1) (out ++ [b[k]!]) d := by
  have e := dropC_get hk
  have hres := h.res
  have hdone := h.done
  have hg := goodC_drop hb k
  rw [e] at hres hdone hg
  generalize hx : b[k]! = x at *
  refine ⟨?_, fun hd => by rw [h.open_ hd, take_getA b k hk, hx], fun hd y hy => hdone hd y (by simp [hy]), by have := h.len; simp; omega⟩
  rw [hres, List.append_assoc]
  congr 1
  unfold restG
  by_cases h0 : d = true ∨ n = 0
  · rw [if_pos h0, if_pos h0]; rfl
  · rw [if_neg h0, if_neg h0]
    have hlf : t.lt x.t = false := by
      rcases hl with q | q | q
      · exact absurd (.inl q) h0
      · exact absurd (.inr q) h0
      · exact q
    have h1 : x.t.lt t = true := by
      cases q : x.t.lt t
      · exact absurd (TV.tri ((CV.ok_iff x).1 (hg.1 x (by simp))).1 ht q hlf) hne
      · rfl
    rw [merged_lt (x := x) (y := ⟨t, n⟩) _ _ h1]
    rfl
theorem addG_ahead (hb : goodC b) (h : AddG b t n k out false) (hk : k < b.length) (h0 : n ≠ 0) (hlt : t.lt (b[k]!).t = true) : AddG b t n (k + 1) ((out ++ [⟨t, n⟩]) ++ [b[k]!]) true := by
  have e := dropC_get hk
  have hres := h.res
  have hg := goodC_drop hb k
  rw [e] at hres hg
  have ho := h.open_ rfl
  have hlen : out.length ≤ k := by rw [ho, List.length_take]; omega
  generalize b[k]! = x at *
  refine ⟨?_, fun hd => (by cases hd), fun _ y hy => TV.lt_trans hlt (goodC_low hg y hy), by simp; omega⟩
  rw [hres]
  unfold restG
  rw [if_neg (by simp [h0]), if_pos (.inl rfl), merged_gt (x := x) (y := ⟨t, n⟩) _ _ (TV.lt_asym hlt) hlt, merged_nil]
  simp
theorem addG_open (hb : goodC b) (h : AddG b t n k out d) (hk : k < b.length) (he : (b[k]!).t = t) : d = false := by
  cases d with
  | false => rfl
  | true =>
    have e := dropC_get hk
    have := h.done rfl (b[k]!) (by rw [e]; simp)
    rw [he, TV.lt_irrefl] at this; cases this
theorem addG_same (hb : goodC b) (h : AddG b t n k out d) (hk : k < b.length) (he : (b[k]!).t = t) (hf : fitsN ((b[k]!).n + n) = true) :
    AddG b t n (k + 1) (if (b[k]!).n + n = 0 then out else out ++ [⟨t, (b[k]!).n + n⟩]) true := by
  have hd := addG_open hb h hk he
  subst hd
  have e := dropC_get hk
  have hres := h.res
  have hg := goodC_drop hb k
  rw [e] at hres hg
  generalize b[k]! = x at *
  have hx := (CV.ok_iff x).1 (hg.1 x (by simp))
  have hlow : ∀ y ∈ b.drop (k + 1), t.lt y.t = true := fun y hy => by rw [← he]; exact goodC_low hg y hy
  refine ⟨?_, fun hd => (by cases hd), fun _ => hlow, by have := h.len; split <;> simp <;> omega⟩
  rw [hres]
  unfold restG
  rw [if_pos (c := true = true ∨ n = 0) (.inl rfl)]
  by_cases h0 : n = 0
  · subst h0
    rw [Int.add_zero, if_neg hx.2.1, if_pos (.inr rfl)]
    have ex : x = ⟨t, x.n⟩ := by cases x; simp only at he ⊢; rw [he]
    rw [← ex]
    simp
  · have l1 : x.t.lt t = false := by rw [he]; exact TV.lt_irrefl _
    have l2 : t.lt x.t = false := by rw [he]; exact TV.lt_irrefl _
    have hm : moreC x n = ⟨x.t, x.n + n⟩ := by unfold moreC; rw [if_pos hf]
    rw [if_neg (by simp [h0])]
    by_cases hz : x.n + n = 0
    · rw [if_pos hz, merged_no (x := x) (y := ⟨t, n⟩) _ _ l1 l2 (by show (moreC x n).n = 0; rw [hm]; exact hz), merged_nil]
    · rw [if_neg hz, merged_one (x := x) (y := ⟨t, n⟩) _ _ l1 l2 (by show ¬ (moreC x n).n = 0; rw [hm]; exact hz), merged_nil]
      show out ++ (moreC x n :: b.drop (k + 1)) = _
      rw [hm, he]
      simp
theorem addG_stays (hb : goodC b) (h : AddG b t n k out d) (hk : k < b.length) (he : (b[k]!).t = t) (hf : fitsN ((b[k]!).n + n) = false) : (if n = 0 then b else mergedC b [⟨t, n⟩]) = b := by
  have hd := addG_open hb h hk he
  subst hd
  have e := dropC_get hk
  have hres := h.res
  have hopen := h.open_
  have hg := goodC_drop hb k
  have htd := List.take_append_drop k b
  rw [e] at hres hg htd
  generalize b[k]! = x at *
  have hx := (CV.ok_iff x).1 (hg.1 x (by simp))
  by_cases h0 : n = 0
  · rw [if_pos h0]
  · have l1 : x.t.lt t = false := by rw [he]; exact TV.lt_irrefl _
    have l2 : t.lt x.t = false := by rw [he]; exact TV.lt_irrefl _
    have hm : moreC x n = x := by unfold moreC; rw [if_neg (by rw [hf]; simp)]
    rw [hres]
    unfold restG
    rw [if_neg (by simp [h0]), merged_one (x := x) (y := ⟨t, n⟩) _ _ l1 l2 (by show ¬ (moreC x n).n = 0; rw [hm]; exact hx.2.1), merged_nil]
    show out ++ (moreC x n :: b.drop (k + 1)) = _
    rw [hm, hopen rfl]
    exact htd
theorem addG_end (h : AddG b t n k out d) (hk : b.length ≤ k) : (if n = 0 then b else mergedC b [⟨t, n⟩]) = if d = true ∨ n = 0 then out else out ++ [⟨t, n⟩] := by
  have hres := h.res
  rw [List.drop_eq_nil_of_le hk] at hres
  rw [hres]
  unfold restG
  split
  · simp
  · rw [nil_merged]
end
theorem addC_not {b : List CV} (t : TV) (n : Int) (h : rightC b = false) : addC b t n = b := by
  unfold addC allC; rw [if_neg (by rw [h]; simp)]
theorem addC_unok {b : List CV} {t : TV} (n : Int) (h : t.ok = false) : addC b t n = b := by
  unfold addC allC
  rw [if_neg]
  rintro ⟨_, h2⟩
  have := ((rightC_iff _).1 h2).1 ⟨t, n⟩ (by simp)
  rw [CV.ok_iff] at this
  rw [this.1] at h; cases h
theorem fitsC_iff (n : Int) : fitsN n = true ↔ -2147483648 ≤ n ∧ n ≤ 2147483648 := by simp [fitsN]
theorem addC_unfit {b : List CV} (t : TV) {n : Int} (h : fitsN n = false) : addC b t n = b := by
  unfold addC allC
  rw [if_neg]
  rintro ⟨_, h2⟩
  have := ((rightC_iff _).1 h2).1 ⟨t, n⟩ (by simp)
  rw [CV.ok_iff] at this
  rw [(fitsC_iff n).2 this.2.2] at h
  cases h
theorem addC_fit {b : List CV} {t : TV} {n : Int} (ht : t.ok = true) (hb : rightC b = true) (h : fitsN n = true) : addC b t n = if n = 0 then b else mergedC b [⟨t, n⟩] := by
  unfold addC allC
  by_cases hn : n = 0
  · rw [if_pos hn, if_neg]
    rintro ⟨_, h2⟩
    have := ((rightC_iff _).1 h2).1 ⟨t, n⟩ (by simp)
    rw [CV.ok_iff] at this
    exact this.2.1 hn
  · rw [if_neg hn, if_pos]
    refine ⟨hb, (rightC_iff _).2 ⟨fun c hc => ?_, List.pairwise_singleton _ _⟩⟩
    simp at hc; subst hc
    exact (CV.ok_iff _).2 ⟨ht, hn, (fitsC_iff n).1 h⟩
end Go.Proofs.Ytcaolilhemamiaa
/- the document's Right, Same, At, Frontier on counts -/
namespace Go.Proofs.Ytcaolilhemamiaa
open Go.RowKit
set_option linter.unusedVariables false
set_option linter.unusedSimpArgs false
attribute [local go_sem ↓] eqTime neTime

instance : DecidableEq CV := fun a b =>
  if h : a.t = b.t ∧ a.n = b.n then .isTrue (by obtain ⟨h1, h2⟩ := h; cases a; cases b; simp only at h1 h2; subst h1; subst h2; rfl)
  else .isFalse fun e => h (by subst e; exact ⟨rfl, rfl⟩)
def eqC (a b : CV) : Bool := decide (a = b)
theorem eqC_iff (a b : CV) : eqC a b = (eqT a.t b.t && decide (a.n = b.n)) := by
  rw [Bool.eq_iff_iff]
  simp only [eqC, eqT, decide_eq_true_eq, Bool.and_eq_true]
  constructor
  · intro h; subst h; exact ⟨rfl, rfl⟩
  · rintro ⟨h0, h1⟩; cases a; cases b; simp only at h0 h1; subst h0; subst h1; rfl
attribute [local go_sem] eqArr4
set_option maxRecDepth 100000 in
theorem eqTimeIn (d : Nat) (a0 a1 a2 a3 a4 b0 b1 b2 b3 b4 : Int) (w : World) : (Op.equalIn (d + 1 + 1 + 1) 26 (.agg #[.int .i64 a0, .int .i64 a1, .int .i64 a2, .int .i64 a3, .int .i64 a4]) (.agg #[.int .i64 b0, .int .i64 b1, .int .i64 b2, .int .i64 b3, .int .i64 b4])).run Try.prog w = .ok (eqT ⟨a0, a1, a2, a3, a4⟩ ⟨b0, b1, b2, b3, b4⟩) w := by
  have u3 := Try.underlying3
  have u22 := Try.underlying22
  have hS : Try.prog.underlying 26 = some (.struct (Try.prog.fieldsOf 26)) := by kernel_rfl
  have hp : Try.prog.stoodInHeld 26 = false := by kernel_rfl
  rw [run_equalIn_agg w (d + 1 + 1) 26 _ _ hS hp]
  simp only [Program.fieldsOf, Try.underlying26]
  rw [eqT_iff]
  simp only
  go_simp
  by_cases h0 : a0 = b0 <;> by_cases h1 : a1 = b1 <;> by_cases h2 : a2 = b2 <;> by_cases h3 : a3 = b3 <;> by_cases h4 : a4 = b4 <;> simp [h0, h1, h2, h3, h4, Result.andThen]
set_option maxRecDepth 100000 in
theorem neCount (a0 a1 a2 a3 a4 a5 b0 b1 b2 b3 b4 b5 : Int) (w : World) : (binOp .neq 52 (.agg #[.int .i64 a0, .int .i64 a1, .int .i64 a2, .int .i64 a3, .int .i64 a4, .int .i64 a5]) (.agg #[.int .i64 b0, .int .i64 b1, .int .i64 b2, .int .i64 b3, .int .i64 b4, .int .i64 b5])).run Try.prog w = .ok (.bool (!eqC ⟨⟨a0, a1, a2, a3, a4⟩, a5⟩ ⟨⟨b0, b1, b2, b3, b4⟩, b5⟩)) w := by
  have u3 := Try.underlying3
  have hS : Try.prog.underlying 52 = some (.struct (Try.prog.fieldsOf 52)) := by kernel_rfl
  have hp : Try.prog.stoodInHeld 52 = false := by kernel_rfl
  have hR := eqTimeIn 9996 a0 a1 a2 a3 a4 b0 b1 b2 b3 b4
  rw [run_neq_struct, show (10000 : Nat) = 9996 + 1 + 1 + 1 + 1 from rfl, run_equalIn_agg w (9996 + 1 + 1 + 1) 52 _ _ hS hp]
  simp only [Program.fieldsOf, Try.underlying52]
  rw [eqC_iff]
  simp only
  go_simp
  generalize eqT ⟨a0, a1, a2, a3, a4⟩ ⟨b0, b1, b2, b3, b4⟩ = q at *
  by_cases h2 : a5 = b5 <;> cases q <;> simp [h2, Result.andThen, hR]
attribute [local go_sem ↓] neCount
set_option maxRecDepth 100000 in
set_option maxHeartbeats 4000000 in
theorem gright_row (xs : List CV) (b off cap : Nat) (w : World) (hl : xs.length ≤ 900000) (hb : b < w.heap.size) (hr : RC.Row w b off xs) :
    Calls Try.prog 27 #[.slice (some ⟨b, off, none⟩) xs.length cap] w (Ret (.bool (rightC xs)) w) := by
  have hrow : Hid (∀ (W : World), Below w.heap.size w W → ∀ j, j < xs.length → _) := fun W hW j hj => atC (hr.below hW hb) j hj
  clear hr
  generalize hn : xs.length = n at hl
  have HN := Lib.hid hn
  clear hn
  go_enter Try.func27, Try.ntmps27
  go_wp2
  go_loopg [3] n (fun gg i wr => ∃ k : Nat, k ≤ n ∧ n - k ≤ gg ∧ i = .int .i64 k ∧ Hid (Below w.heap.size w wr) ∧ Hid (upC xs k = true))
  case atStart => exact ⟨0, Nat.zero_le _, by omega, rfl, Below.refl _ _, upC_zero _⟩
  case round =>
    obtain ⟨k, hkn, hg, rfl, HB, HU⟩ := hrel
    by_cases hlt : k < n
    · have hlz : (k : Int) < (n : Int) := by omega
      have HC := Lib.hid (fun W (hW : Below w.heap.size w W) => hrow.out W hW k (by rw [HN.out]; exact hlt))
      have hno1 := fun h => right_no_ok (xs := xs) (k := k) (by rw [HN.out]; exact hlt) h
      have hno2 := fun h => right_no_lt (xs := xs) (k := k) (by rw [HN.out]; exact hlt) h
      have hup := fun h => upC_succ (xs := xs) (k := k) HU.out h
      have hcp := fun (W : World) (hW : Below w.heap.size w W) (h : 0 < k) => hrow.out W hW (k - 1) (by rw [HN.out]; omega)
      generalize xs[k]! = c at HC hno1 hno2 hup
      generalize xs[k - 1]! = c' at hno2 hup hcp
      obtain ⟨t, m⟩ := c
      obtain ⟨e0, e1, e2, e3, e4, e5⟩ := HC.out wr HB.out
      try simp only at e0 e1 e2 e3 e4 e5
      have hOK := fun W => rlist_ok t W
      have hL := fun W => rtlt_any c'.t t W
      have hok : CV.ok ⟨t, m⟩ = (t.ok && (!(m == 0) && fitsN m)) := rfl
      rw [hok] at hno1 hup
      clear hok hrow
      generalize t.ok = q1 at hno1 hup hOK
      generalize c'.t.lt t = q3 at hno2 hup hL
      have HOK := Lib.hid hOK; have HL := Lib.hid hL
      clear hOK hL
      have HN1 := Lib.hid hno1; have HN2 := Lib.hid hno2; have HUP := Lib.hid hup; have HCP := Lib.hid hcp
      clear hno1 hno2 hup hcp
      go_wp2_with fail
      refine (HOK.out _).mono ?_
      rintro e w1 ⟨vl, rfl, hb⟩
      have HB1 := Lib.hid (HB.out.trans (hb.mono HB.out.size))
      obtain ⟨f0, f1, f2, f3, f4, f5⟩ := HC.out w1 HB1.out
      try simp only at f0 f1 f2 f3 f4 f5
      clear hb e0 e1 e2 e3 e4 e5 HOK HC HB
      cases q1
      · go_wp2
        go_returns
        exact ⟨ret_bool (HN1.out rfl).symm, HB1.out⟩
      by_cases hm : m = 0
      · subst hm
        go_wp2
        go_returns
        exact ⟨ret_bool (HN1.out rfl).symm, HB1.out⟩
      have hmb : (m == 0) = false := by simpa using hm
      by_cases hbig : 2147483648 < m
      · have hf : fitsN m = false := decide_eq_false (by omega)
        go_wp2
        go_returns
        exact ⟨ret_bool (HN1.out (by rw [hmb, hf]; rfl)).symm, HB1.out⟩
      by_cases hsm : m < -2147483648
      · have hf : fitsN m = false := decide_eq_false (by omega)
        go_wp2
        go_returns
        exact ⟨ret_bool (HN1.out (by rw [hmb, hf]; rfl)).symm, HB1.out⟩
      have hf : Hid (fitsN m = true) := decide_eq_true (by omega)
      have HF0 : Hid (∀ p : Beh w1, p.w.cell? ⟨b, off + k * 6, none⟩ = some (.int .i64 t.d) ∧ p.w.cell? ⟨b, off + k * 6 + 1, none⟩ = some (.int .i64 t.c0) ∧ p.w.cell? ⟨b, off + k * 6 + 2, none⟩ = some (.int .i64 t.c1) ∧ p.w.cell? ⟨b, off + k * 6 + 3, none⟩ = some (.int .i64 t.c2) ∧ p.w.cell? ⟨b, off + k * 6 + 4, none⟩ = some (.int .i64 t.c3)) := fun p => ⟨beh_cell f0 p, beh_cell f1 p, beh_cell f2 p, beh_cell f3 p, beh_cell f4 p⟩
      by_cases hk0 : k = 0
      · subst hk0
        have HU1 : Hid (upC xs (0 + 1) = true) := HUP.out (by rw [hmb, hf.out]; rfl) (fun h => absurd h (by omega))
        clear HUP HN1 HN2 HCP HU
        go_wp2_with fail
        clear f0 f1 f2 f3 f4 f5
        refine wp_region_beh (by kernel_rfl) (by kernel_rfl) ?_
        repeat (first | go_big_quiet_step (first | (with_reducible exact Calls.beh (HL.out _))) | quiet_step (first | (with_reducible exact Calls.beh (HL.out _))))
        refine wpQuiet_nil ?_
        intro _ hw'
        obtain ⟨g, hw''⟩ := hw'
        subst hw''
        have HB3 := Lib.hid (HB1.out.trans (g.h.mono HB1.out.size))
        generalize g.w = wq at *
        clear g
        go_wp2
        go_roundg (n - (0 + 1))
        case measure => omega
        case rel => exact ⟨0 + 1, by omega, by omega, by go_num, HB3.out, HU1.out⟩
      obtain ⟨k', rfl⟩ : ∃ k', k = k' + 1 := ⟨k - 1, by omega⟩
      have hkz : (0 : Int) < ((k' + 1 : Nat) : Int) := by omega
      have hc := HCP.out _ HB1.out (by omega)
      simp only [Nat.add_sub_cancel] at hc
      obtain ⟨g0, g1, g2, g3, g4, g5⟩ := hc
      clear HCP g5
      cases q3
      · go_wp2_with fail
        clear f0 f1 f2 f3 f4 f5
        have f0 := fun p => (HF0.out p).1; have f1 := fun p => (HF0.out p).2.1; have f2 := fun p => (HF0.out p).2.2.1; have f3 := fun p => (HF0.out p).2.2.2.1; have f4 := fun p => (HF0.out p).2.2.2.2
        replace g0 := fun p => beh_cell g0 p
        replace g1 := fun p => beh_cell g1 p
        replace g2 := fun p => beh_cell g2 p
        replace g3 := fun p => beh_cell g3 p
        replace g4 := fun p => beh_cell g4 p
        refine wp_region_beh (by kernel_rfl) (by kernel_rfl) ?_
        repeat (first | go_big_quiet_step (first | (with_reducible exact Calls.beh (HL.out _))) | quiet_step (first | (with_reducible exact Calls.beh (HL.out _))))
        refine wpQuiet_nil ?_
        intro _ hw'
        obtain ⟨g, hw''⟩ := hw'
        subst hw''
        have HB3 := Lib.hid (HB1.out.trans (g.h.mono HB1.out.size))
        clear f0 f1 f2 f3 f4 g0 g1 g2 g3 g4 HF0
        generalize g.w = wq at *
        clear g
        go_wp2
        go_returns
        exact ⟨ret_bool (HN2.out (by omega) (by trivial)).symm, HB3.out⟩
      · have HU1 : Hid (upC xs (k' + 1 + 1) = true) := HUP.out (by rw [hmb, hf.out]; rfl) (fun _ => rfl)
        clear HUP HN1 HN2 HU
        go_wp2_with fail
        clear f0 f1 f2 f3 f4 f5
        have f0 := fun p => (HF0.out p).1; have f1 := fun p => (HF0.out p).2.1; have f2 := fun p => (HF0.out p).2.2.1; have f3 := fun p => (HF0.out p).2.2.2.1; have f4 := fun p => (HF0.out p).2.2.2.2
        replace g0 := fun p => beh_cell g0 p
        replace g1 := fun p => beh_cell g1 p
        replace g2 := fun p => beh_cell g2 p
        replace g3 := fun p => beh_cell g3 p
        replace g4 := fun p => beh_cell g4 p
        refine wp_region_beh (by kernel_rfl) (by kernel_rfl) ?_
        repeat (first | go_big_quiet_step (first | (with_reducible exact Calls.beh (HL.out _))) | quiet_step (first | (with_reducible exact Calls.beh (HL.out _))))
        refine wpQuiet_nil ?_
        intro _ hw'
        obtain ⟨g, hw''⟩ := hw'
        subst hw''
        have HB3 := Lib.hid (HB1.out.trans (g.h.mono HB1.out.size))
        clear f0 f1 f2 f3 f4 g0 g1 g2 g3 g4 HF0
        generalize g.w = wq at *
        clear g
        go_wp2
        go_roundg (n - (k' + 1 + 1))
        case measure => omega
        case rel => exact ⟨k' + 1 + 1, by omega, by omega, by go_num, HB3.out, HU1.out⟩
    · have hlz : ¬ (k : Int) < (n : Int) := by omega
      have : k = n := by omega
      subst this
      have HX : Hid (rightC xs = true) := by
        have h := HU.out
        rw [← HN.out] at h
        exact h
      clear HU hrow
      go_wp2
      go_returns
      exact ⟨ret_bool HX.out.symm, HB.out⟩
set_option maxHeartbeats 2000000 in
theorem gright_nil (p : Option Addr) (cap : Nat) (w : World) : Calls Try.prog 27 #[.slice p 0 cap] w (Ret (.bool (rightC [])) w) := by
  go_enter Try.func27, Try.ntmps27
  go_wp2
  refine wp_loop_rounds 1 ?_
  rw [rounds_succ]
  go_wp2
  go_returns
  exact ⟨ret_bool (by decide), Below.refl _ _⟩
theorem gright_any (xs : List CV) (v : Value) (w : World) (hl : xs.length ≤ 900000) (h : RC.Is w v xs) : Calls Try.prog 27 #[v] w (Ret (.bool (rightC xs)) w) := by
  rcases h with ⟨rfl, p, cap, rfl, _⟩ | ⟨_, b, off, cap, rfl, hb, hr⟩
  · exact gright_nil p cap w
  · exact gright_row xs b off cap w hl hb hr
set_option maxRecDepth 100000 in
set_option maxHeartbeats 4000000 in
theorem gsame_row (xs ys : List CV) (b off cap b2 off2 cap2 : Nat) (w : World) (hl : xs.length ≤ 900000) (hlen : xs.length = ys.length) (hb : b < w.heap.size) (hr : RC.Row w b off xs) (hb2 : b2 < w.heap.size) (hr2 : RC.Row w b2 off2 ys) :
    Calls Try.prog 28 #[.slice (some ⟨b, off, none⟩) xs.length cap, .slice (some ⟨b2, off2, none⟩) ys.length cap2] w (Ret (.bool (decide (xs = ys))) w) := by
  have hrow : Hid (∀ (W : World), Below w.heap.size w W → ∀ j, j < xs.length → _) := fun W hW j hj => atC (hr.below hW hb) j hj
  have hrow2 : Hid (∀ (W : World), Below w.heap.size w W → ∀ j, j < ys.length → _) := fun W hW j hj => atC (hr2.below hW hb2) j hj
  clear hr hr2
  rw [← hlen]
  generalize hn : xs.length = n at hl hlen
  have HN := Lib.hid hn
  have HM := Lib.hid hlen
  clear hn hlen
  generalize hres : decide (xs = ys) = res
  have HR := Lib.hid hres
  clear hres
  go_enter Try.func28, Try.ntmps28
  go_wp2
  go_loopg [5] n (fun gg i wr => ∃ k : Nat, k ≤ n ∧ n - k ≤ gg ∧ i = .int .i64 k ∧ Hid (Below w.heap.size w wr) ∧ Hid (xs.take k = ys.take k))
  case atStart => exact ⟨0, Nat.zero_le _, by omega, rfl, (Below.refl _ _), rfl⟩
  case round =>
    obtain ⟨k, hkn, hg, rfl, HB, HC⟩ := hrel
    by_cases hlt : k < n
    · have hlz : (k : Int) < (n : Int) := by omega
      have hc := fun m => hrow.out (wr.drewN m) (below_drewN HB.out m) k (by rw [HN.out]; exact hlt)
      have hc2 := fun m => hrow2.out (wr.drewN m) (below_drewN HB.out m) k (by rw [← HM.out]; exact hlt)
      have hgo := fun (h : xs[k]! = ys[k]!) => show xs.take (k + 1) = ys.take (k + 1) by rw [take_getA xs k (by rw [HN.out]; exact hlt), take_getA ys k (by rw [← HM.out]; exact hlt), HC.out, h]
      have hno := fun (h : ¬ xs[k]! = ys[k]!) => show res = false from by rw [← HR.out]; exact decide_eq_false (fun e => h (by rw [e]))
      generalize xs[k]! = x at hc hgo hno
      generalize ys[k]! = y at hc2 hgo hno
      have e0 := fun m => (hc m).1; have e1 := fun m => (hc m).2.1; have e2 := fun m => (hc m).2.2.1; have e3 := fun m => (hc m).2.2.2.1; have e4 := fun m => (hc m).2.2.2.2.1; have e5 := fun m => (hc m).2.2.2.2.2
      have f0 := fun m => (hc2 m).1; have f1 := fun m => (hc2 m).2.1; have f2 := fun m => (hc2 m).2.2.1; have f3 := fun m => (hc2 m).2.2.2.1; have f4 := fun m => (hc2 m).2.2.2.2.1; have f5 := fun m => (hc2 m).2.2.2.2.2
      clear hc hc2 hrow hrow2
      by_cases hxy : x = y
      · have hq : eqC ⟨⟨x.t.d, x.t.c0, x.t.c1, x.t.c2, x.t.c3⟩, x.n⟩ ⟨⟨y.t.d, y.t.c0, y.t.c1, y.t.c2, y.t.c3⟩, y.n⟩ = true := decide_eq_true (by rw [hxy])
        have HG := Lib.hid (hgo hxy)
        clear hgo hno hxy
        go_wp2_with fail
        go_quiet (fail)
        go_wp2
        go_roundg (n - (k + 1))
        case measure => omega
        case rel => exact ⟨k + 1, by omega, by omega, by go_num, below_drewN HB.out _, HG.out⟩
      · have hq : eqC ⟨⟨x.t.d, x.t.c0, x.t.c1, x.t.c2, x.t.c3⟩, x.n⟩ ⟨⟨y.t.d, y.t.c0, y.t.c1, y.t.c2, y.t.c3⟩, y.n⟩ = false := decide_eq_false (fun e => hxy (by obtain ⟨⟨x0, x1, x2, x3, x4⟩, x5⟩ := x; obtain ⟨⟨y0, y1, y2, y3, y4⟩, y5⟩ := y; exact e))
        have HG := Lib.hid (hno hxy)
        clear hgo hno hxy
        go_wp2_with fail
        go_quiet (fail)
        go_wp2
        go_returns
        exact ⟨ret_bool HG.out.symm, below_drewN HB.out _⟩
    · have hlz : ¬ (k : Int) < (n : Int) := by omega
      have : k = n := by omega
      subst this
      have HX : Hid (res = true) := by
        have h := HC.out
        rw [List.take_of_length_le (by rw [HN.out]; exact Nat.le_refl _), List.take_of_length_le (by rw [← HM.out]; exact Nat.le_refl _)] at h
        show res = true
        rw [← HR.out]
        exact decide_eq_true h
      clear HC hrow hrow2
      go_wp2
      go_returns
      exact ⟨ret_bool HX.out.symm, HB.out⟩
set_option maxHeartbeats 2000000 in
theorem gsame_no (xs ys : List CV) (p q : Option Addr) (cap cap2 : Nat) (w : World) (hlen : xs.length ≠ ys.length) (h1 : xs.length ≤ 900000) (h2 : ys.length ≤ 900000) :
    Calls Try.prog 28 #[.slice p xs.length cap, .slice q ys.length cap2] w (Ret (.bool (decide (xs = ys))) w) := by
  rw [decide_eq_false (fun e => hlen (by rw [e]))]
  generalize xs.length = n at *
  generalize ys.length = m at *
  have hne : ¬ (n : Int) = (m : Int) := by omega
  have hneb : ((n : Int) != (m : Int)) = true := by simpa using hne
  go_enter Try.func28, Try.ntmps28
  go_wp2
  go_returns
  exact ⟨rfl, Below.refl _ _⟩
set_option maxHeartbeats 2000000 in
theorem gsame_nil (p q : Option Addr) (cap cap2 : Nat) (w : World) :
    Calls Try.prog 28 #[.slice p 0 cap, .slice q 0 cap2] w (Ret (.bool (decide (([] : List CV) = []))) w) := by
  rw [decide_eq_true rfl]
  go_enter Try.func28, Try.ntmps28
  go_wp2
  refine wp_loop_rounds 1 ?_
  rw [rounds_succ]
  go_wp2
  go_returns
  exact ⟨rfl, Below.refl _ _⟩
theorem gsame_any (xs ys : List CV) (va vb : Value) (w : World) (h1 : xs.length ≤ 900000) (h2 : ys.length ≤ 900000) (ha : RC.Is w va xs) (hb : RC.Is w vb ys) : Calls Try.prog 28 #[va, vb] w (Ret (.bool (decide (xs = ys))) w) := by
  by_cases hlen : xs.length = ys.length
  · rcases ha with ⟨rfl, p, cap, rfl, _⟩ | ⟨hne, b, off, cap, rfl, hl, hr⟩
    · obtain rfl : ys = [] := List.length_eq_zero_iff.1 hlen.symm
      obtain ⟨q, d, rfl⟩ := hb.slice
      exact gsame_nil p q cap d w
    · rcases hb with ⟨rfl, q, d, rfl, _⟩ | ⟨_, b2, off2, cap2, rfl, hl2, hr2⟩
      · exact absurd (List.length_eq_zero_iff.1 hlen) hne
      · exact gsame_row xs ys b off cap b2 off2 cap2 w h1 hlen hl hr hl2 hr2
  · obtain ⟨p, c, rfl⟩ := ha.slice
    obtain ⟨q, d, rfl⟩ := hb.slice
    exact gsame_no xs ys p q c d w hlen h1 h2

end Go.Proofs.Ytcaolilhemamiaa
/- the walk of the document's Add on counts -/
namespace Go.Proofs.Ytcaolilhemamiaa
open Go.RowKit
set_option linter.unusedVariables false
set_option linter.unusedSimpArgs false
attribute [local go_sem ↓] eqTime neTime

set_option maxRecDepth 100000 in
set_option maxHeartbeats 8000000 in
theorem gadd_any (xs : List CV) (t : TV) (n : Int) (v : Value) (w : World) (hl : xs.length ≤ 400000) (h64 : -9223372036854775808 ≤ n ∧ n ≤ 9223372036854775807) (h : RC.Is w v xs) :
    Calls Try.prog 30 #[v, t.val, .int .i64 n] w (RC.Made (addC xs t n) w) := by
  obtain ⟨d, c0, c1, c2, c3⟩ := t
  have HI := Lib.hid h
  obtain ⟨p, c, rfl⟩ := h.slice
  have hB0 : Below (w.heap.size + 1) (w.alloc (.cells #[.int .i64 d, .int .i64 c0, .int .i64 c1, .int .i64 c2, .int .i64 c3] 26)) ((w.alloc (.cells #[.int .i64 d, .int .i64 c0, .int .i64 c1, .int .i64 c2, .int .i64 c3] 26)).alloc (.cells #[] 52)) := (Below.refl _ _).alloc (by simp) _
  have hBw : Below w.heap.size w (w.alloc (.cells #[.int .i64 d, .int .i64 c0, .int .i64 c1, .int .i64 c2, .int .i64 c3] 26)) := (Below.refl _ _).alloc (Nat.le_refl _) _
  have HI2 := Lib.hid ((HI.out.below hBw).below (hB0.mono (by simp)))
  have hO0 : RC.Own (w.heap.size + 1) ((w.alloc (.cells #[.int .i64 d, .int .i64 c0, .int .i64 c1, .int .i64 c2, .int .i64 c3] 26)).alloc (.cells #[] 52)) (.slice (some ⟨w.heap.size + 1, 0, none⟩) 0 0) [] := by
    have q := World.ownsRow_made (base := w.heap.size + 1) (e := 52) (size := 6) (w.alloc (.cells #[.int .i64 d, .int .i64 c0, .int .i64 c1, .int .i64 c2, .int .i64 c3] 26)) #[] 0 (by simp) (Nat.zero_le _) rfl
    rw [World.size_alloc] at q
    exact q
  have HO0 := Lib.hid hO0; have HB0 := Lib.hid hB0; have HBw := Lib.hid hBw
  have HZ0 : Hid (w.heap.size + 1 ≤ ((w.alloc (.cells #[.int .i64 d, .int .i64 c0, .int .i64 c1, .int .i64 c2, .int .i64 c3] 26)).alloc (.cells #[] 52)).heap.size) := by show _ ≤ _; simp
  have HL0 : Hid (([] : List CV).length + xs.length ≤ 1000000) := by show _ ≤ _; simp; omega
  have HX0 := Lib.hid (Boxed.new w #[.int .i64 d, .int .i64 c0, .int .i64 c1, .int .i64 c2, .int .i64 c3] 26)
  clear h hO0 hB0 hBw
  have hnot := fun h => addC_not (b := xs) ⟨d, c0, c1, c2, c3⟩ n h
  have hunk := fun h => addC_unok (b := xs) (t := ⟨d, c0, c1, c2, c3⟩) n h
  have hunf := fun h => addC_unfit (b := xs) ⟨d, c0, c1, c2, c3⟩ (n := n) h
  have hfit := fun h0 h1 h2 => addC_fit (b := xs) (t := ⟨d, c0, c1, c2, c3⟩) (n := n) h0 h1 h2
  have HG : Hid (rightC xs = true → goodC xs) := fun h => (rightC_iff xs).1 h
  have HR := Lib.hid (fun (W : World) (u : Value) (hu : RC.Is W u xs) => gright_any xs u W (by omega) hu)
  have HLs : Hid (∀ W, Calls Try.prog 43 #[.agg #[.int .i64 d, .int .i64 c0, .int .i64 c1, .int .i64 c2, .int .i64 c3]] W (fun e w' => ∃ v, e = .returned (.tuple #[v, .bool (TV.ok ⟨d, c0, c1, c2, c3⟩)]) ∧ Below W.heap.size W w')) := fun W => rlist_ok ⟨d, c0, c1, c2, c3⟩ W
  have HTok : Hid (TV.ok ⟨d, c0, c1, c2, c3⟩ = TV.ok ⟨d, c0, c1, c2, c3⟩) := rfl
  generalize addC xs ⟨d, c0, c1, c2, c3⟩ n = res at *
  generalize rightC xs = q at *
  generalize hok : TV.ok ⟨d, c0, c1, c2, c3⟩ = okq at *
  have HOk := Lib.hid hok
  clear hok HTok
  have HNot := Lib.hid hnot; have HUnk := Lib.hid hunk; have HUnf := Lib.hid hunf; have HFit := Lib.hid hfit
  clear hnot hunk hunf hfit
  have HLn : Hid (xs.length ≤ 400000) := hl
  generalize hn : xs.length = m at hl HI HI2
  have HN := Lib.hid hn
  clear hn
  show Calls _ _ #[_, .agg #[.int .i64 d, .int .i64 c0, .int .i64 c1, .int .i64 c2, .int .i64 c3], _] _ _
  go_enter Try.func30, Try.ntmps30
  go_wp2_with (at_builtin; refine RowKind.Own.appendAny (R := RC) (ys := xs) HO0.out HB0.out HZ0.out rfl _ _ rfl rfl rfl HI2.out HL0.out ?_; intro vs w2 hO2 hB2 hz2; obtain ⟨a0, a1, a2, a3, a4⟩ : w2.cell? ⟨w.heap.size, 0, none⟩ = some (.int .i64 d) ∧ w2.cell? ⟨w.heap.size, 1, none⟩ = some (.int .i64 c0) ∧ w2.cell? ⟨w.heap.size, 2, none⟩ = some (.int .i64 c1) ∧ w2.cell? ⟨w.heap.size, 3, none⟩ = some (.int .i64 c2) ∧ w2.cell? ⟨w.heap.size, 4, none⟩ = some (.int .i64 c3) := ⟨(HX0.out.below hB2 (by omega)).cell 0, (HX0.out.below hB2 (by omega)).cell 1, (HX0.out.below hB2 (by omega)).cell 2, (HX0.out.below hB2 (by omega)).cell 3, (HX0.out.below hB2 (by omega)).cell 4⟩)
  have HS2 : Hid (RC.Own (w.heap.size + 1) w2 vs xs) := hO2
  have HB2 := Lib.hid hB2
  have HI3 := Lib.hid ((HI.out.below HBw.out).below (HB2.out.mono (by simp)))
  have HX2 := Lib.hid (HX0.out.below HB2.out (by omega))
  have HW2 := Lib.hid (HBw.out.trans (HB2.out.mono (by omega)))
  clear hO2 hB2 HO0 HB0 HZ0 HL0 HX0 HI2 HBw HB2
  refine (HLs.out _).mono ?_
  rintro e wl ⟨vl, rfl, hb⟩
  replace HS2 := Lib.hid (HS2.out.below hb)
  replace HI3 := Lib.hid (HI3.out.below hb)
  replace HX2 := Lib.hid (HX2.out.below hb HX2.out.lt)
  replace HW2 := Lib.hid (HW2.out.trans (hb.mono HW2.out.size))
  clear hb HLs a0 a1 a2 a3 a4
  have HZl : Hid (w.heap.size + 1 ≤ wl.heap.size) := HX2.out.lt
  cases okq
  · go_wp2
    go_returns
    rw [HUnk.out (by trivial)]
    exact ⟨_, rfl, HS2.out.mono (by omega), HW2.out⟩
  go_wp2_with fail
  refine (HR.out _ _ HI3.out).mono ?_
  rintro e w3 ⟨rfl, hb⟩
  have HS3 := Lib.hid (HS2.out.below hb)
  have HI4 := Lib.hid (HI3.out.below hb)
  have HX3 := Lib.hid (HX2.out.below hb HX2.out.lt)
  have HW3 := Lib.hid (HW2.out.trans (hb.mono HW2.out.size))
  clear hb HR HS2 HI3 HX2 HW2 HUnk
  have HZ3 : Hid (w.heap.size + 1 ≤ w3.heap.size) := HX3.out.lt
  cases q
  · go_wp2
    go_returns
    rw [HNot.out (by trivial)]
    exact ⟨_, rfl, HS3.out.mono (by omega), HW3.out⟩
  have hG := HG.out (by trivial)
  by_cases hbig : 2147483648 < n
  · go_wp2
    go_returns
    rw [HUnf.out (decide_eq_false (by omega))]
    exact ⟨_, rfl, HS3.out.mono (by omega), HW3.out⟩
  by_cases hsm : n < -2147483648
  · go_wp2
    go_returns
    rw [HUnf.out (decide_eq_false (by omega))]
    exact ⟨_, rfl, HS3.out.mono (by omega), HW3.out⟩
  have HRes := Lib.hid (HFit.out (by trivial) (by trivial) (decide_eq_true (by omega)))
  have HGd := Lib.hid hG
  clear HNot HUnf HFit HG hG
  rcases HI4.out with ⟨hx, q0, d0, eq0, _⟩ | ⟨hne, b, off, cap, eq0, hbl, hrow⟩
  · have hm0 : m = 0 := by have := HN.out; rw [hx] at this; simpa using this.symm
    subst hm0
    have HR0 : Hid (res = if n = 0 then [] else [⟨⟨d, c0, c1, c2, c3⟩, n⟩]) := by
      show _ = _
      rw [HRes.out, hx, nil_merged]
    clear HI HI4 hx eq0 HRes HGd HN HLn
    by_cases hn0 : n = 0
    · subst hn0
      go_wp2
      refine wp_loop_rounds 1 ?_
      rw [rounds_succ]
      go_wp2
      go_returns
      rw [HR0.out]
      exact ⟨_, rfl, RowKind.Own.nil RC _ _, HW3.out⟩
    · have hnb : (n != 0) = true := by simpa using hn0
      have x0 := HX3.out.cell 0; have x1 := HX3.out.cell 1; have x2 := HX3.out.cell 2; have x3 := HX3.out.cell 3; have x4 := HX3.out.cell 4
      have x0 : w3.cell? ⟨w.heap.size, 0, none⟩ = some (.int .i64 d) := x0
      have x1 : w3.cell? ⟨w.heap.size, 1, none⟩ = some (.int .i64 c0) := x1
      have x2 : w3.cell? ⟨w.heap.size, 2, none⟩ = some (.int .i64 c1) := x2
      have x3 : w3.cell? ⟨w.heap.size, 3, none⟩ = some (.int .i64 c2) := x3
      have x4 : w3.cell? ⟨w.heap.size, 4, none⟩ = some (.int .i64 c3) := x4
      have hsz := HW3.out.size
      have HRn : Hid (res = [] ++ [⟨⟨d, c0, c1, c2, c3⟩, n⟩]) := by show _ = _; rw [HR0.out, if_neg hn0]; rfl
      clear hn0 HR0
      go_wp2
      refine wp_loop_rounds 1 ?_
      rw [rounds_succ]
      go_wp2_with (at_builtin; refine RowKind.Own.push (R := RC) (y := ⟨⟨d, c0, c1, c2, c3⟩, n⟩) (RowKind.Own.nil RC w.heap.size w3) HW3.out hsz rfl _ _ rfl rfl _ rfl (by simp) (Nat.le_refl _) ?_; intro v5 w5 hO5 hB5 hz5)
      go_returns
      rw [HRn.out]
      exact ⟨_, rfl, hO5, hB5⟩
  · simp only [Value.slice.injEq] at eq0
    obtain ⟨rfl, hnx, rfl⟩ := eq0
    clear hnx
    have HRow : Hid (∀ W, Below w3.heap.size w3 W → ∀ j, j < m → _) := fun W hW j hj => atC (hrow.below hW hbl) j (by rw [HN.out]; exact hj)
    have HXs : Hid (∀ W, Below w3.heap.size w3 W → RC.Own (w.heap.size + 1) W vs xs) := fun W hW => HS3.out.below hW
    have HXb : Hid (∀ W, Below w3.heap.size w3 W → W.cell? ⟨w.heap.size, 0, none⟩ = some (.int .i64 d) ∧ W.cell? ⟨w.heap.size, 1, none⟩ = some (.int .i64 c0) ∧ W.cell? ⟨w.heap.size, 2, none⟩ = some (.int .i64 c1) ∧ W.cell? ⟨w.heap.size, 3, none⟩ = some (.int .i64 c2) ∧ W.cell? ⟨w.heap.size, 4, none⟩ = some (.int .i64 c3)) := fun W hW => ⟨(HX3.out.below hW HX3.out.lt).cell 0, (HX3.out.below hW HX3.out.lt).cell 1, (HX3.out.below hW HX3.out.lt).cell 2, (HX3.out.below hW HX3.out.lt).cell 3, (HX3.out.below hW HX3.out.lt).cell 4⟩
    clear hrow hne HI HI4 HS3 HX3
    go_wp2
    go_loopg [10, 11, 12] m (fun gg vo vd i wr => ∃ (k : Nat) (out : List CV) (dn : Bool), k ≤ m ∧ m - k ≤ gg ∧ i = .int .i64 k ∧ vd = .bool dn ∧ Hid (AddG xs ⟨d, c0, c1, c2, c3⟩ n k out dn) ∧ Hid (RC.Own w3.heap.size wr vo out) ∧ Hid (Below w3.heap.size w3 wr))
    case atStart => exact ⟨0, [], false, Nat.zero_le _, by omega, rfl, rfl, addG_start _ _ _, RowKind.Own.nil RC _ _, Below.refl _ _⟩
    case round =>
      obtain ⟨k, out, dn, hkm, hgg, rfl, rfl, HA, HO, HB⟩ := hrel
      have hlen : out.length ≤ 900000 := by have := HA.out.len; have := HLn.out; have := HN.out; omega
      have hlen8 : out.length ≤ 800000 := by have := HA.out.len; have := HLn.out; have := HN.out; omega
      by_cases hlt : k < m
      · have hlz : (k : Int) < (m : Int) := by omega
        have hkl : k < xs.length := by rw [HN.out]; exact hlt
        have hrk := fun W hW => HRow.out W hW k hlt
        have hxm : xs[k]! ∈ xs := by rw [getElem!_pos xs k hkl]; exact List.getElem_mem hkl
        have hxok := (CV.ok_iff _).1 (HGd.out.1 _ hxm)
        have hsame := fun he hf => addG_same HGd.out HA.out hkl he hf
        have hstay := fun he hf => addG_stays HGd.out HA.out hkl he hf
        have hpass := fun he hd => addG_pass HOk.out HGd.out HA.out hkl he hd
        have hahead := fun (hd : dn = false) h0 hl => addG_ahead (out := out) HGd.out (by rw [← hd]; exact HA.out) hkl h0 hl
        have hL := fun W => rtlt_any ⟨d, c0, c1, c2, c3⟩ (xs[k]!).t W
        clear hxm HRow
        generalize xs[k]! = x at *
        obtain ⟨⟨xd, x0, x1, x2, x3⟩, y⟩ := x
        simp only at hxok
        have HRK : Hid (∀ W, Below w3.heap.size w3 W → W.cell? ⟨b, off + k * 6, none⟩ = some (.int .i64 xd) ∧ W.cell? ⟨b, off + k * 6 + 1, none⟩ = some (.int .i64 x0) ∧ W.cell? ⟨b, off + k * 6 + 2, none⟩ = some (.int .i64 x1) ∧ W.cell? ⟨b, off + k * 6 + 3, none⟩ = some (.int .i64 x2) ∧ W.cell? ⟨b, off + k * 6 + 4, none⟩ = some (.int .i64 x3) ∧ W.cell? ⟨b, off + k * 6 + 5, none⟩ = some (.int .i64 y)) := hrk
        have HL : Hid (∀ W, Calls Try.prog 50 #[.agg #[.int .i64 d, .int .i64 c0, .int .i64 c1, .int .i64 c2, .int .i64 c3], .agg #[.int .i64 xd, .int .i64 x0, .int .i64 x1, .int .i64 x2, .int .i64 x3]] W (Ret (.bool (TV.lt ⟨d, c0, c1, c2, c3⟩ ⟨xd, x0, x1, x2, x3⟩)) W)) := hL
        clear hrk hL
        have hy0 := hxok.2.1
        have hy1 := hxok.2.2.1
        have hy2 := hxok.2.2.2
        clear hxok
        have hw1 : -9223372036854775808 ≤ y + n := by omega
        have hw2 : y + n ≤ 9223372036854775807 := by omega
        by_cases he : (⟨xd, x0, x1, x2, x3⟩ : TV) = ⟨d, c0, c1, c2, c3⟩
        · have hq : eqT ⟨xd, x0, x1, x2, x3⟩ ⟨d, c0, c1, c2, c3⟩ = true := decide_eq_true he
          have HSt := Lib.hid (fun hf => hstay he hf)
          have HSm := Lib.hid (fun hf => hsame he hf)
          clear hsame hstay hpass hahead he HL HA
          have e0 := fun p => beh_cell (HRK.out _ HB.out).1 p; have e1 := fun p => beh_cell (HRK.out _ HB.out).2.1 p; have e2 := fun p => beh_cell (HRK.out _ HB.out).2.2.1 p; have e3 := fun p => beh_cell (HRK.out _ HB.out).2.2.2.1 p; have e4 := fun p => beh_cell (HRK.out _ HB.out).2.2.2.2.1 p
          have b0 := fun p => beh_cell (HXb.out _ HB.out).1 p; have b1 := fun p => beh_cell (HXb.out _ HB.out).2.1 p; have b2 := fun p => beh_cell (HXb.out _ HB.out).2.2.1 p; have b3 := fun p => beh_cell (HXb.out _ HB.out).2.2.2.1 p; have b4 := fun p => beh_cell (HXb.out _ HB.out).2.2.2.2 p
          go_wp2_with fail
          refine wp_region_beh (by kernel_rfl) (by kernel_rfl) ?_
          repeat (first | go_big_quiet_step (fail) | quiet_step (fail))
          refine wpQuiet_nil ?_
          intro _ hw'
          obtain ⟨gg2, hw''⟩ := hw'
          subst hw''
          replace HO := Lib.hid (HO.out.below gg2.h)
          replace HB := Lib.hid (HB.out.trans (gg2.h.mono HB.out.size))
          clear e0 e1 e2 e3 e4 b0 b1 b2 b3 b4
          generalize gg2.w = wq at *
          clear gg2
          obtain ⟨e0, e1, e2, e3, e4, e5⟩ := HRK.out _ HB.out
          obtain ⟨b0, b1, b2, b3, b4⟩ := HXb.out _ HB.out
          have hz := HB.out.size
          by_cases hbig2 : 2147483648 < y + n
          · have HR0 : Hid (res = xs) := HRes.out.trans (HSt.out (decide_eq_false (by (try simp only); omega)))
            have HXs2 := Lib.hid (HXs.out _ HB.out)
            clear HSt HSm HRes HRK HXb HXs
            go_wp2
            go_returns
            rw [HR0.out]
            exact ⟨_, rfl, HXs2.out.mono (by omega), HW3.out.trans (HB.out.mono HW3.out.size)⟩
          by_cases hsm2 : y + n < -2147483648
          · have HR0 : Hid (res = xs) := HRes.out.trans (HSt.out (decide_eq_false (by (try simp only); omega)))
            have HXs2 := Lib.hid (HXs.out _ HB.out)
            clear HSt HSm HRes HRK HXb HXs
            go_wp2
            go_returns
            rw [HR0.out]
            exact ⟨_, rfl, HXs2.out.mono (by omega), HW3.out.trans (HB.out.mono HW3.out.size)⟩
          have HA2 := Lib.hid (HSm.out (decide_eq_true (by (try simp only); omega)))
          by_cases hz0 : y + n = 0
          · have hzb : (y + n != 0) = false := by simpa using hz0
            have HA3 : Hid (AddG xs ⟨d, c0, c1, c2, c3⟩ n (k + 1) out true) := by have q := HA2.out; (try simp only at q); rw [if_pos hz0] at q; exact q
            clear HSt HSm HRes HRK HXb HXs HA2 hz0
            go_wp2
            go_roundg (m - (k + 1))
            case measure => omega
            case rel => exact ⟨k + 1, out, true, by omega, by omega, by go_num, rfl, HA3.out, HO.out, HB.out⟩
          · have hzb : (y + n != 0) = true := by simpa using hz0
            have HA3 : Hid (AddG xs ⟨d, c0, c1, c2, c3⟩ n (k + 1) (out ++ [⟨⟨d, c0, c1, c2, c3⟩, y + n⟩]) true) := by have q := HA2.out; (try simp only at q); rw [if_neg hz0] at q; exact q
            clear HSt HSm HRes HRK HXb HXs HA2 hz0
            go_wp2_with (at_builtin; refine RowKind.Own.push (R := RC) (y := ⟨⟨d, c0, c1, c2, c3⟩, y + n⟩) HO.out HB.out hz rfl _ _ rfl rfl _ rfl hlen (Nat.le_refl _) ?_; intro v5 w5 hO5 hB5 hz5)
            go_roundg (m - (k + 1))
            case measure => omega
            case rel => exact ⟨k + 1, out ++ [(⟨⟨d, c0, c1, c2, c3⟩, y + n⟩ : CV)], true, by omega, by omega, by go_num, rfl, HA3.out, hO5, hB5⟩
        · have hq : eqT ⟨xd, x0, x1, x2, x3⟩ ⟨d, c0, c1, c2, c3⟩ = false := decide_eq_false he
          have e0 := fun p => beh_cell (HRK.out _ HB.out).1 p; have e1 := fun p => beh_cell (HRK.out _ HB.out).2.1 p; have e2 := fun p => beh_cell (HRK.out _ HB.out).2.2.1 p; have e3 := fun p => beh_cell (HRK.out _ HB.out).2.2.2.1 p; have e4 := fun p => beh_cell (HRK.out _ HB.out).2.2.2.2.1 p
          have b0 := fun p => beh_cell (HXb.out _ HB.out).1 p; have b1 := fun p => beh_cell (HXb.out _ HB.out).2.1 p; have b2 := fun p => beh_cell (HXb.out _ HB.out).2.2.1 p; have b3 := fun p => beh_cell (HXb.out _ HB.out).2.2.2.1 p; have b4 := fun p => beh_cell (HXb.out _ HB.out).2.2.2.2 p
          go_wp2_with fail
          refine wp_region_beh (by kernel_rfl) (by kernel_rfl) ?_
          repeat (first | go_big_quiet_step (fail) | quiet_step (fail))
          refine wpQuiet_nil ?_
          intro _ hw'
          obtain ⟨gg2, hw''⟩ := hw'
          subst hw''
          replace HO := Lib.hid (HO.out.below gg2.h)
          replace HB := Lib.hid (HB.out.trans (gg2.h.mono HB.out.size))
          clear e0 e1 e2 e3 e4 b0 b1 b2 b3 b4
          generalize gg2.w = wq at *
          clear gg2
          cases dn with
          | true =>
            have HA3 : Hid (AddG xs ⟨d, c0, c1, c2, c3⟩ n (k + 1) (out ++ [⟨⟨xd, x0, x1, x2, x3⟩, y⟩]) true) := hpass he (.inl rfl)
            clear hsame hstay hpass hahead HA HRes HXs he
            have e0 := fun p => beh_cell (HRK.out _ HB.out).1 p; have e1 := fun p => beh_cell (HRK.out _ HB.out).2.1 p; have e2 := fun p => beh_cell (HRK.out _ HB.out).2.2.1 p; have e3 := fun p => beh_cell (HRK.out _ HB.out).2.2.2.1 p; have e4 := fun p => beh_cell (HRK.out _ HB.out).2.2.2.2.1 p
            have b0 := fun p => beh_cell (HXb.out _ HB.out).1 p; have b1 := fun p => beh_cell (HXb.out _ HB.out).2.1 p; have b2 := fun p => beh_cell (HXb.out _ HB.out).2.2.1 p; have b3 := fun p => beh_cell (HXb.out _ HB.out).2.2.2.1 p; have b4 := fun p => beh_cell (HXb.out _ HB.out).2.2.2.2 p
            go_wp2_with fail
            refine wp_region_beh (by kernel_rfl) (by kernel_rfl) ?_
            repeat (first | go_big_quiet_step ((first | (with_reducible exact Calls.beh (HL.out _)))) | quiet_step ((first | (with_reducible exact Calls.beh (HL.out _)))))
            refine wpQuiet_nil ?_
            intro _ hw'
            obtain ⟨gg2, hw''⟩ := hw'
            subst hw''
            replace HO := Lib.hid (HO.out.below gg2.h)
            replace HB := Lib.hid (HB.out.trans (gg2.h.mono HB.out.size))
            clear e0 e1 e2 e3 e4 b0 b1 b2 b3 b4
            generalize gg2.w = wq at *
            clear gg2
            obtain ⟨e0, e1, e2, e3, e4, e5⟩ := HRK.out _ HB.out
            obtain ⟨b0, b1, b2, b3, b4⟩ := HXb.out _ HB.out
            have hz := HB.out.size
            clear HL HRK HXb
            go_wp2_with (at_builtin; refine RowKind.Own.push (R := RC) (y := ⟨⟨xd, x0, x1, x2, x3⟩, y⟩) HO.out HB.out hz rfl _ _ rfl rfl _ rfl hlen (Nat.le_refl _) ?_; intro v5 w5 hO5 hB5 hz5)
            go_roundg (m - (k + 1))
            case measure => omega
            case rel => exact ⟨k + 1, out ++ [(⟨⟨xd, x0, x1, x2, x3⟩, y⟩ : CV)], true, by omega, by omega, by go_num, rfl, HA3.out, hO5, hB5⟩
          | false =>
            by_cases hn0 : n = 0
            · have hnb : (n != 0) = false := by simp [hn0]
              have hn0h := Lib.hid hn0
              clear hn0
              have HA3 : Hid (AddG xs ⟨d, c0, c1, c2, c3⟩ n (k + 1) (out ++ [⟨⟨xd, x0, x1, x2, x3⟩, y⟩]) false) := hpass he (.inr (.inl hn0h.out))
              clear hsame hstay hpass hahead HA HRes HXs he
              have e0 := fun p => beh_cell (HRK.out _ HB.out).1 p; have e1 := fun p => beh_cell (HRK.out _ HB.out).2.1 p; have e2 := fun p => beh_cell (HRK.out _ HB.out).2.2.1 p; have e3 := fun p => beh_cell (HRK.out _ HB.out).2.2.2.1 p; have e4 := fun p => beh_cell (HRK.out _ HB.out).2.2.2.2.1 p
              have b0 := fun p => beh_cell (HXb.out _ HB.out).1 p; have b1 := fun p => beh_cell (HXb.out _ HB.out).2.1 p; have b2 := fun p => beh_cell (HXb.out _ HB.out).2.2.1 p; have b3 := fun p => beh_cell (HXb.out _ HB.out).2.2.2.1 p; have b4 := fun p => beh_cell (HXb.out _ HB.out).2.2.2.2 p
              go_wp2_with fail
              refine wp_region_beh (by kernel_rfl) (by kernel_rfl) ?_
              repeat (first | go_big_quiet_step ((first | (with_reducible exact Calls.beh (HL.out _)))) | quiet_step ((first | (with_reducible exact Calls.beh (HL.out _)))))
              refine wpQuiet_nil ?_
              intro _ hw'
              obtain ⟨gg2, hw''⟩ := hw'
              subst hw''
              replace HO := Lib.hid (HO.out.below gg2.h)
              replace HB := Lib.hid (HB.out.trans (gg2.h.mono HB.out.size))
              clear e0 e1 e2 e3 e4 b0 b1 b2 b3 b4
              generalize gg2.w = wq at *
              clear gg2
              obtain ⟨e0, e1, e2, e3, e4, e5⟩ := HRK.out _ HB.out
              obtain ⟨b0, b1, b2, b3, b4⟩ := HXb.out _ HB.out
              have hz := HB.out.size
              clear HL HRK HXb
              go_wp2_with (at_builtin; refine RowKind.Own.push (R := RC) (y := ⟨⟨xd, x0, x1, x2, x3⟩, y⟩) HO.out HB.out hz rfl _ _ rfl rfl _ rfl hlen (Nat.le_refl _) ?_; intro v5 w5 hO5 hB5 hz5)
              go_roundg (m - (k + 1))
              case measure => omega
              case rel => exact ⟨k + 1, out ++ [(⟨⟨xd, x0, x1, x2, x3⟩, y⟩ : CV)], false, by omega, by omega, by go_num, rfl, HA3.out, hO5, hB5⟩
            · have hnb : (n != 0) = true := by simpa using hn0
              have HP2 : Hid (TV.lt ⟨d, c0, c1, c2, c3⟩ ⟨xd, x0, x1, x2, x3⟩ = false → AddG xs ⟨d, c0, c1, c2, c3⟩ n (k + 1) (out ++ [⟨⟨xd, x0, x1, x2, x3⟩, y⟩]) false) := fun h => hpass he (.inr (.inr h))
              have HAh : Hid (TV.lt ⟨d, c0, c1, c2, c3⟩ ⟨xd, x0, x1, x2, x3⟩ = true → AddG xs ⟨d, c0, c1, c2, c3⟩ n (k + 1) ((out ++ [⟨⟨d, c0, c1, c2, c3⟩, n⟩]) ++ [⟨⟨xd, x0, x1, x2, x3⟩, y⟩]) true) := fun h => hahead rfl hn0 h
              clear hsame hstay hpass hahead HA HRes HXs he hn0
              generalize TV.lt ⟨d, c0, c1, c2, c3⟩ ⟨xd, x0, x1, x2, x3⟩ = ql at *
              have e0 := fun p => beh_cell (HRK.out _ HB.out).1 p; have e1 := fun p => beh_cell (HRK.out _ HB.out).2.1 p; have e2 := fun p => beh_cell (HRK.out _ HB.out).2.2.1 p; have e3 := fun p => beh_cell (HRK.out _ HB.out).2.2.2.1 p; have e4 := fun p => beh_cell (HRK.out _ HB.out).2.2.2.2.1 p
              have b0 := fun p => beh_cell (HXb.out _ HB.out).1 p; have b1 := fun p => beh_cell (HXb.out _ HB.out).2.1 p; have b2 := fun p => beh_cell (HXb.out _ HB.out).2.2.1 p; have b3 := fun p => beh_cell (HXb.out _ HB.out).2.2.2.1 p; have b4 := fun p => beh_cell (HXb.out _ HB.out).2.2.2.2 p
              go_wp2_with fail
              refine wp_region_beh (by kernel_rfl) (by kernel_rfl) ?_
              repeat (first | go_big_quiet_step ((first | (with_reducible exact Calls.beh (HL.out _)))) | quiet_step ((first | (with_reducible exact Calls.beh (HL.out _)))))
              refine wpQuiet_nil ?_
              intro _ hw'
              obtain ⟨gg2, hw''⟩ := hw'
              subst hw''
              replace HO := Lib.hid (HO.out.below gg2.h)
              replace HB := Lib.hid (HB.out.trans (gg2.h.mono HB.out.size))
              clear e0 e1 e2 e3 e4 b0 b1 b2 b3 b4
              generalize gg2.w = wq at *
              clear gg2
              obtain ⟨e0, e1, e2, e3, e4, e5⟩ := HRK.out _ HB.out
              obtain ⟨b0, b1, b2, b3, b4⟩ := HXb.out _ HB.out
              have hz := HB.out.size
              cases ql with
              | false =>
                have HA3 := Lib.hid (HP2.out (by trivial))
                clear HP2 HAh HL HRK HXb
                go_wp2_with (at_builtin; refine RowKind.Own.push (R := RC) (y := ⟨⟨xd, x0, x1, x2, x3⟩, y⟩) HO.out HB.out hz rfl _ _ rfl rfl _ rfl hlen (Nat.le_refl _) ?_; intro v5 w5 hO5 hB5 hz5)
                go_roundg (m - (k + 1))
                case measure => omega
                case rel => exact ⟨k + 1, out ++ [(⟨⟨xd, x0, x1, x2, x3⟩, y⟩ : CV)], false, by omega, by omega, by go_num, rfl, HA3.out, hO5, hB5⟩
              | true =>
                have HA3 := Lib.hid (HAh.out (by trivial))
                clear HP2 HAh HL HXb
                have hl7 : (out ++ [(⟨⟨d, c0, c1, c2, c3⟩, n⟩ : CV)]).length ≤ 900000 := by simp; omega
                go_wp2_with (first
                  | (at_builtin; refine RowKind.Own.push (R := RC) (y := ⟨⟨xd, x0, x1, x2, x3⟩, y⟩) hO7 hB7 hB7.size rfl _ _ rfl rfl _ rfl hl7 (Nat.le_refl _) ?_; intro v5 w5 hO5 hB5 hz5)
                  | (at_builtin; refine RowKind.Own.push (R := RC) (y := ⟨⟨d, c0, c1, c2, c3⟩, n⟩) HO.out HB.out hz rfl _ _ rfl rfl _ rfl hlen (Nat.le_refl _) ?_; intro v7 w7 hO7 hB7 hz7; obtain ⟨h0, h1, h2, h3, h4, h5⟩ := HRK.out w7 hB7))
                go_roundg (m - (k + 1))
                case measure => omega
                case rel => exact ⟨k + 1, (out ++ [(⟨⟨d, c0, c1, c2, c3⟩, n⟩ : CV)]) ++ [(⟨⟨xd, x0, x1, x2, x3⟩, y⟩ : CV)], true, by omega, by omega, by go_num, rfl, HA3.out, hO5, hB5⟩
      · have hlz : ¬ (k : Int) < (m : Int) := by omega
        have hkm2 : k = m := by omega
        subst hkm2
        have HE := Lib.hid (addG_end HA.out (by rw [HN.out]; exact Nat.le_refl _))
        obtain ⟨b0, b1, b2, b3, b4⟩ := HXb.out wr HB.out
        have hz := HB.out.size
        by_cases hdn : dn = true ∨ n = 0
        · have HR0 : Hid (res = out) := by show _ = _; rw [HRes.out, HE.out, if_pos hdn]
          clear HE HRes HA HRow HXb HXs
          rcases hdn with rfl | rfl
          · go_wp2
            go_returns
            rw [HR0.out]
            exact ⟨_, rfl, HO.out.mono (by have := HZ3.out; omega), HW3.out.trans (HB.out.mono HW3.out.size)⟩
          · cases dn
            · go_wp2
              go_returns
              rw [HR0.out]
              exact ⟨_, rfl, HO.out.mono (by have := HZ3.out; omega), HW3.out.trans (HB.out.mono HW3.out.size)⟩
            · go_wp2
              go_returns
              rw [HR0.out]
              exact ⟨_, rfl, HO.out.mono (by have := HZ3.out; omega), HW3.out.trans (HB.out.mono HW3.out.size)⟩
        · have hdf : dn = false := by cases dn <;> simp at hdn ⊢
          subst hdf
          have hnn : n ≠ 0 := fun h => hdn (.inr h)
          have hnb : (n != 0) = true := by simpa using hnn
          have HR0 : Hid (res = out ++ [⟨⟨d, c0, c1, c2, c3⟩, n⟩]) := by show _ = _; rw [HRes.out, HE.out, if_neg hdn]
          clear HE HRes HA HRow HXb HXs hdn hnn
          go_wp2_with (at_builtin; refine RowKind.Own.push (R := RC) (y := ⟨⟨d, c0, c1, c2, c3⟩, n⟩) HO.out HB.out hz rfl _ _ rfl rfl _ rfl hlen (Nat.le_refl _) ?_; intro v5 w5 hO5 hB5 hz5)
          go_returns
          rw [HR0.out]
          exact ⟨_, rfl, hO5.mono (by have := HZ3.out; omega), HW3.out.trans (hB5.mono HW3.out.size)⟩
end Go.Proofs.Ytcaolilhemamiaa
/- counts added one by one are counts added together -/
namespace Go.Proofs.Ytcaolilhemamiaa
open Go.RowKit
set_option linter.unusedVariables false
set_option linter.unusedSimpArgs false

theorem atC_nil (u : TV) : atS [] u = 0 := rfl
theorem atC_low {f : List CV} {u : TV} (h : ∀ c ∈ f, u.lt c.t = true) : atS f u = 0 := atS_zero fun c hc e => by
  have := h c hc
  rw [e, TV.lt_irrefl] at this
  cases this
theorem goodC_cons {c : CV} {f : List CV} (hc : c.ok = true) (hl : ∀ d ∈ f, c.t.lt d.t = true) (hf : goodC f) : goodC (c :: f) := by
  refine ⟨fun d hd => ?_, List.pairwise_cons.2 ⟨hl, hf.2⟩⟩
  rcases List.mem_cons.1 hd with rfl | hd
  · exact hc
  · exact hf.1 d hd
theorem atC_fits {f : List CV} (h : goodC f) (u : TV) : -2147483648 ≤ atS f u ∧ atS f u ≤ 2147483648 := by
  induction f with
  | nil => rw [atC_nil]; omega
  | cons c f ih =>
    rw [atS_cons]
    by_cases e : c.t = u
    · subst e
      rw [if_pos rfl, atS_head h]
      have := ((CV.ok_iff c).1 (h.1 c (by simp))).2
      omega
    · rw [if_neg e]
      have := ih (good_tail h)
      omega
/-- two right counts in which each timestamp is there as often are one -/
theorem goodC_ext : ∀ {f g : List CV}, goodC f → goodC g → (∀ u, atS f u = atS g u) → f = g
  | [], [], _, _, _ => rfl
  | [], c :: g, _, hg, h => by
    exfalso
    have := h c.t
    rw [atC_nil, atS_cons, if_pos rfl, atS_head hg] at this
    exact ((CV.ok_iff c).1 (hg.1 c (by simp))).2.1 (by omega)
  | c :: f, [], hf, _, h => by
    exfalso
    have := h c.t
    rw [atC_nil, atS_cons, if_pos rfl, atS_head hf] at this
    exact ((CV.ok_iff c).1 (hf.1 c (by simp))).2.1 (by omega)
  | c :: f, d :: g, hf, hg, h => by
    have hc := (CV.ok_iff c).1 (hf.1 c (by simp))
    have hd := (CV.ok_iff d).1 (hg.1 d (by simp))
    have e : c.t = d.t := by
      refine TV.tri hc.1 hd.1 ?_ ?_
      · cases q : c.t.lt d.t
        · rfl
        · exfalso
          have := h c.t
          rw [atS_cons, if_pos rfl, atS_head hf, atC_low (f := d :: g) (fun x hx => by
            rcases List.mem_cons.1 hx with rfl | hx
            · exact q
            · exact TV.lt_trans q (goodC_low hg x hx))] at this
          omega
      · cases q : d.t.lt c.t
        · rfl
        · exfalso
          have := h d.t
          rw [atS_cons (c := d), if_pos rfl, atS_head hg, atC_low (f := c :: f) (fun x hx => by
            rcases List.mem_cons.1 hx with rfl | hx
            · exact q
            · exact TV.lt_trans q (goodC_low hf x hx))] at this
          omega
    have en : c.n = d.n := by
      have := h c.t
      rw [atS_cons, if_pos rfl, atS_head hf, atS_cons, if_pos e.symm, e, atS_head hg] at this
      omega
    have ec : c = d := by cases c; cases d; simp only at e en; subst e; subst en; rfl
    subst ec
    rw [goodC_ext (good_tail hf) (good_tail hg) (fun u => by have := h u; rw [atS_cons, atS_cons] at this; omega)]
/-- as many more, if it fits -/
def addF (x y : Int) : Int := if fitsN (x + y) = true then x + y else x
theorem addF_fit {x y : Int} (h : -2147483648 ≤ x + y ∧ x + y ≤ 2147483648) : addF x y = x + y := if_pos ((fitsC_iff _).2 h)
theorem addF_zero {x : Int} (h : -2147483648 ≤ x ∧ x ≤ 2147483648) : addF x 0 = x := by rw [addF_fit (by omega)]; omega
structure MergeP (a b m : List CV) : Prop where
  good : goodC m
  at_ : ∀ u, atS m u = addF (atS a u) (atS b u)
  low : ∀ u : TV, (∀ c ∈ a, u.lt c.t = true) → (∀ c ∈ b, u.lt c.t = true) → ∀ c ∈ m, u.lt c.t = true
  len : m.length ≤ a.length + b.length
theorem mergedC_is : ∀ (a b : List CV), goodC a → goodC b → MergeP a b (mergedC a b)
  | [], b, _, hb => by
    rw [nil_merged]
    refine ⟨hb, fun u => ?_, fun u _ h => h, by simp⟩
    rw [atC_nil, addF_fit (by have := atC_fits hb u; omega), Int.zero_add]
  | x :: a, [], ha, _ => by
    rw [merged_nil]
    refine ⟨ha, fun u => ?_, fun u h _ => h, by simp⟩
    rw [atC_nil, addF_fit (by have := atC_fits ha u; omega), Int.add_zero]
  | x :: a, y :: b, ha, hb => by
    have hx := (CV.ok_iff x).1 (ha.1 x (by simp))
    have hy := (CV.ok_iff y).1 (hb.1 y (by simp))
    have hx2 := hx.2
    have hy2 := hy.2
    cases q : x.t.lt y.t with
    | true =>
      rw [merged_lt a b q]
      have ih := mergedC_is a (y :: b) (good_tail ha) hb
      have lb : ∀ c ∈ y :: b, x.t.lt c.t = true := fun c hc => by
        rcases List.mem_cons.1 hc with rfl | hc
        · exact q
        · exact TV.lt_trans q (goodC_low hb c hc)
      have lw := ih.low x.t (goodC_low ha) lb
      refine ⟨goodC_cons (ha.1 x (by simp)) lw ih.good, fun u => ?_, fun u hu hv c hc => ?_, ?_⟩
      · by_cases e : x.t = u
        · subst e
          rw [atS_cons, if_pos rfl, atS_cons (c := x) (f := a), if_pos rfl, atC_low lw, atC_low (goodC_low ha), atC_low lb, addF_fit (by omega)]
          omega
        · rw [atS_cons, if_neg e, atS_cons (c := x) (f := a), if_neg e, ih.at_ u, Int.zero_add, Int.zero_add]
      · rcases List.mem_cons.1 hc with rfl | hc
        · exact hu _ (by simp)
        · exact ih.low u (fun d hd => hu d (by simp [hd])) hv c hc
      · have := ih.len; simp only [List.length_cons] at *; omega
    | false =>
      cases q2 : y.t.lt x.t with
      | true =>
        rw [merged_gt a b q q2]
        have ih := mergedC_is (x :: a) b ha (good_tail hb)
        have la : ∀ c ∈ x :: a, y.t.lt c.t = true := fun c hc => by
          rcases List.mem_cons.1 hc with rfl | hc
          · exact q2
          · exact TV.lt_trans q2 (goodC_low ha c hc)
        have lw := ih.low y.t la (goodC_low hb)
        refine ⟨goodC_cons (hb.1 y (by simp)) lw ih.good, fun u => ?_, fun u hu hv c hc => ?_, ?_⟩
        · by_cases e : y.t = u
          · subst e
            rw [atS_cons, if_pos rfl, atC_low lw, atC_low la, atS_cons, if_pos rfl, atC_low (goodC_low hb), addF_fit (by omega)]
            omega
          · rw [atS_cons, if_neg e, ih.at_ u, atS_cons (c := y) (f := b), if_neg e, Int.zero_add, Int.zero_add]
        · rcases List.mem_cons.1 hc with rfl | hc
          · exact hv _ (by simp)
          · exact ih.low u hu (fun d hd => hv d (by simp [hd])) c hc
        · have := ih.len; simp only [List.length_cons] at *; omega
      | false =>
        have e : x.t = y.t := TV.tri hx.1 hy.1 q q2
        have ih := mergedC_is a b (good_tail ha) (good_tail hb)
        have lw := ih.low x.t (goodC_low ha) (by rw [e]; exact goodC_low hb)
        have hm : moreC x y.n = ⟨x.t, addF x.n y.n⟩ := by
          unfold moreC addF
          split <;> rfl
        have hau : ∀ u, atS (x :: a) u = if x.t = u then x.n else atS a u := fun u => by
          rw [atS_cons]
          by_cases k : x.t = u
          · subst k; rw [if_pos rfl, if_pos rfl, atS_head ha]; omega
          · rw [if_neg k, if_neg k]; omega
        have hbu : ∀ u, atS (y :: b) u = if x.t = u then y.n else atS b u := fun u => by
          rw [atS_cons, ← e]
          by_cases k : x.t = u
          · subst k; rw [if_pos rfl, if_pos rfl, e, atS_head hb]; omega
          · rw [if_neg k, if_neg k]; omega
        by_cases hz : (moreC x y.n).n = 0
        · rw [merged_no a b q q2 hz]
          rw [hm] at hz
          refine ⟨ih.good, fun u => ?_, fun u hu hv c hc => ih.low u (fun d hd => hu d (by simp [hd])) (fun d hd => hv d (by simp [hd])) c hc, ?_⟩
          · rw [hau, hbu]
            by_cases k : x.t = u
            · rw [if_pos k, if_pos k, ← k, atC_low lw]; exact hz.symm
            · rw [if_neg k, if_neg k]; exact ih.at_ u
          · have := ih.len; simp only [List.length_cons] at *; omega
        · rw [merged_one a b q q2 hz]
          rw [hm] at hz ⊢
          refine ⟨goodC_cons ?_ lw ih.good, fun u => ?_, fun u hu hv c hc => ?_, ?_⟩
          · rw [CV.ok_iff]
            refine ⟨hx.1, hz, ?_⟩
            show -2147483648 ≤ addF x.n y.n ∧ addF x.n y.n ≤ 2147483648
            unfold addF
            split
            · rename_i k; exact (fitsC_iff _).1 k
            · exact hx2.2
          · rw [hau, hbu, atS_cons]
            by_cases k : x.t = u
            · rw [if_pos k, if_pos k, if_pos k, ← k, atC_low lw]; simp only; omega
            · rw [if_neg k, if_neg k, if_neg k, ih.at_ u]; omega
          · rcases List.mem_cons.1 hc with rfl | hc
            · exact hu x (by simp)
            · exact ih.low u (fun d hd => hu d (by simp [hd])) (fun d hd => hv d (by simp [hd])) c hc
          · have := ih.len; simp only [List.length_cons] at *; omega
termination_by a b => a.length + b.length
theorem allC_is {a b : List CV} (ha : goodC a) (hb : goodC b) : MergeP a b (allC a b) := by
  unfold allC
  rw [if_pos ⟨(rightC_iff a).2 ha, (rightC_iff b).2 hb⟩]
  exact mergedC_is a b ha hb
theorem allC_len (a b : List CV) : (allC a b).length ≤ a.length + b.length := by
  by_cases h : rightC a = true ∧ rightC b = true
  · exact (allC_is ((rightC_iff a).1 h.1) ((rightC_iff b).1 h.2)).len
  · unfold allC; rw [if_neg h]; omega
theorem addC_len (b : List CV) (t : TV) (n : Int) : (addC b t n).length ≤ b.length + 1 := allC_len b [⟨t, n⟩]
def joinC (a b : List CV) : List CV := b.foldl (fun o c => addC o c.t c.n) a
theorem joinC_cons (a : List CV) (c : CV) (b : List CV) : joinC a (c :: b) = joinC (addC a c.t c.n) b := rfl
theorem joinC_take {a b : List CV} {k : Nat} (hk : k < b.length) : joinC a (b.take (k + 1)) = addC (joinC a (b.take k)) (b[k]!).t (b[k]!).n := by
  unfold joinC
  rw [take_getA b k hk, List.foldl_append]
  rfl
theorem joinC_len : ∀ (b a : List CV), (joinC a b).length ≤ a.length + b.length
  | [], a => by simp [joinC]
  | c :: b, a => by
    rw [joinC_cons]
    have h1 := joinC_len b (addC a c.t c.n)
    have h2 := addC_len a c.t c.n
    simp only [List.length_cons]
    omega
theorem oneC_good {c : CV} (h : c.ok = true) : goodC [c] := ⟨fun d hd => by simp at hd; subst hd; exact h, List.pairwise_singleton _ _⟩
theorem oneC_at (c : CV) (u : TV) : atS [c] u = if c.t = u then c.n else 0 := by rw [atS_cons, atC_nil]; omega
theorem joinC_is : ∀ (b a : List CV), goodC a → goodC b → goodC (joinC a b) ∧ ∀ u, atS (joinC a b) u = addF (atS a u) (atS b u)
  | [], a, ha, _ => ⟨ha, fun u => by rw [atC_nil, addF_zero (atC_fits ha u)]; rfl⟩
  | c :: b, a, ha, hb => by
    rw [joinC_cons]
    have P := allC_is ha (oneC_good (c := c) (hb.1 c (by simp)))
    have hat : ∀ u, atS (addC a c.t c.n) u = addF (atS a u) (if c.t = u then c.n else 0) := fun u => by
      show atS (allC a [c]) u = _
      rw [P.at_, oneC_at]
    have ih := joinC_is b (addC a c.t c.n) P.good (good_tail hb)
    refine ⟨ih.1, fun u => ?_⟩
    rw [ih.2 u, atS_cons]
    have hf := atC_fits (f := addC a c.t c.n) P.good u
    by_cases e : c.t = u
    · subst e
      rw [if_pos rfl, atS_head hb, addF_zero hf, hat, if_pos rfl, Int.add_zero]
    · rw [if_neg e, Int.zero_add, hat, if_neg e, addF_zero (atC_fits ha u)]
theorem joinC_not {a : List CV} (h : rightC a = false) : ∀ (b : List CV), joinC a b = a
  | [] => rfl
  | c :: b => by rw [joinC_cons, addC_not _ _ h]; exact joinC_not h b
theorem joinC_all {a b : List CV} (hb : rightC b = true) : joinC a b = allC a b := by
  by_cases ha : rightC a = true
  · have ga := (rightC_iff a).1 ha; have gb := (rightC_iff b).1 hb
    have J := joinC_is b a ga gb
    have P := allC_is ga gb
    exact goodC_ext J.1 P.good fun u => by rw [J.2, P.at_]
  · have hf : rightC a = false := by simpa using ha
    rw [joinC_not hf]
    unfold allC
    rw [if_neg (by rw [hf]; simp)]
theorem allC_no {a b : List CV} (hb : rightC b = false) : allC a b = a := by
  unfold allC
  rw [if_neg (by rw [hb]; simp)]
/- the document's At: the last that is the same -/
def lastN (f : List CV) (u : TV) : Int := f.foldl (fun m c => if eqT c.t u = true then c.n else m) 0
theorem lastN_take {b : List CV} {u : TV} {k : Nat} (hk : k < b.length) : lastN (b.take (k + 1)) u = if eqT (b[k]!).t u = true then (b[k]!).n else lastN (b.take k) u := by
  unfold lastN
  rw [take_getA b k hk, List.foldl_append]
  rfl
theorem lastN_find : ∀ (f : List CV) (u : TV) (m : Int), goodC f → f.foldl (fun m c => if eqT c.t u = true then c.n else m) m = ((f.find? fun c => eqT c.t u).map CV.n).getD m
  | [], u, m, _ => rfl
  | c :: f, u, m, h => by
    rw [List.foldl_cons, lastN_find f u _ (good_tail h)]
    by_cases e : eqT c.t u = true
    · have e2 : c.t = u := of_decide_eq_true e
      have hno : f.find? (fun c => eqT c.t u) = none := List.find?_eq_none.2 fun d hd hdu => by
        have := goodC_low h d hd
        rw [of_decide_eq_true hdu, e2, TV.lt_irrefl] at this
        cases this
      rw [if_pos e, hno, List.find?_cons, e]
      rfl
    · have e2 : eqT c.t u = false := by simpa using e
      rw [if_neg e, List.find?_cons, e2]
theorem lastN_is {f : List CV} (u : TV) (h : goodC f) : lastN f u = atN f u := lastN_find f u 0 h
end Go.Proofs.Ytcaolilhemamiaa
/- the document's All, At and Frontier on counts -/
namespace Go.Proofs.Ytcaolilhemamiaa
open Go.RowKit
set_option linter.unusedVariables false
set_option linter.unusedSimpArgs false
attribute [local go_sem ↓] eqTime neTime

set_option maxRecDepth 100000 in
set_option maxHeartbeats 8000000 in
theorem gall_any (xs ys : List CV) (va vb : Value) (w : World) (hl : xs.length ≤ 100000) (hm : ys.length ≤ 100000) (ha : RC.Is w va xs) (hb : RC.Is w vb ys) :
    Calls Try.prog 32 #[va, vb] w (RC.Made (allC xs ys) w) := by
  obtain ⟨p, c, rfl⟩ := ha.slice
  have HA := Lib.hid ha; have HI := Lib.hid hb
  clear ha
  have HO := Lib.hid (show RC.Own w.heap.size (w.alloc (.cells #[] 52)) (.slice (some ⟨w.heap.size, 0, none⟩) 0 0) [] from World.ownsRow_made w #[] 0 (Nat.le_refl _) (Nat.zero_le _) rfl)
  have HB := Lib.hid ((Below.refl w.heap.size w).alloc (Nat.le_refl _) (.cells #[] 52))
  have HL : Hid (([] : List CV).length + xs.length ≤ 1000000) := by show _ ≤ _; simp; omega
  have HZ := Lib.hid HB.out.size
  have HA2 := Lib.hid (HA.out.below HB.out)
  have HR := Lib.hid (fun (W : World) (u : Value) (hu : RC.Is W u ys) => gright_any ys u W (by omega) hu)
  have hno : rightC ys = false → allC xs ys = xs := fun h => allC_no h
  have hyes : rightC ys = true → allC xs ys = joinC xs ys := fun h => (joinC_all h).symm
  have HG : Hid (rightC ys = true → goodC ys) := fun h => (rightC_iff ys).1 h
  generalize allC xs ys = res at *
  generalize rightC ys = q at *
  have HNo := Lib.hid hno; have HYes := Lib.hid hyes
  clear hno hyes
  have HX : Hid (xs.length ≤ 100000) := hl
  generalize xs.length = n0 at HA HA2 ⊢
  obtain ⟨p2, c2, rfl⟩ := hb.slice
  clear hb
  generalize hn : ys.length = m at *
  have HN := Lib.hid hn
  clear hn
  go_enter Try.func32, Try.ntmps32
  go_wp2_with (at_builtin; refine RowKind.Own.appendAny (R := RC) (ys := xs) HO.out HB.out HZ.out rfl _ _ rfl rfl rfl HA2.out HL.out ?_; intro v2 w2 hO2 hB2 hz2)
  have HO2 : Hid (RC.Own w.heap.size w2 v2 xs) := hO2
  have HB2 := Lib.hid hB2
  have HI2 := Lib.hid (HI.out.below hB2)
  clear hO2 hB2 HO HB HL HZ HA HA2
  go_wp2_with fail
  refine (HR.out _ _ HI2.out).mono ?_
  rintro e w3 ⟨rfl, hb⟩
  have HO3 := Lib.hid (HO2.out.below hb)
  have HB3 := Lib.hid (HB2.out.trans (hb.mono HB2.out.size))
  clear hb HO2 HB2 HI2 HR
  cases q
  · go_wp2
    go_returns
    rw [HNo.out (by trivial)]
    exact ⟨_, rfl, HO3.out, HB3.out⟩
  have HRes := Lib.hid (HYes.out (by trivial))
  have HGd := Lib.hid (HG.out (by trivial))
  clear HNo HYes HG
  rcases HI.out with ⟨hx, q0, d0, eq0, _⟩ | ⟨hne, b, off, cap, eq0, hbl, hrow⟩
  · have hm0 : m = 0 := by have := HN.out; rw [hx] at this; simpa using this.symm
    subst hm0
    have HR0 : Hid (res = xs) := by show _ = _; rw [HRes.out, hx]; rfl
    clear hx eq0 HRes HGd HN HI
    go_wp2
    refine wp_loop_rounds 1 ?_
    rw [rounds_succ]
    go_wp2
    go_returns
    rw [HR0.out]
    exact ⟨_, rfl, HO3.out, HB3.out⟩
  · simp only [Value.slice.injEq] at eq0
    obtain ⟨rfl, hnx, rfl⟩ := eq0
    clear hnx
    have HRow : Hid (∀ W, Below w.heap.size w W → ∀ j, j < m → _) := fun W hW j hj => atC (hrow.below hW hbl) j (by rw [HN.out]; exact hj)
    clear hrow hne HI hbl
    go_wp2
    go_loopg [5, 6] m (fun gg vo i wr => ∃ k : Nat, k ≤ m ∧ m - k ≤ gg ∧ i = .int .i64 k ∧ Hid (RC.Own w.heap.size wr vo (joinC xs (ys.take k))) ∧ Hid (Below w.heap.size w wr))
    case atStart => exact ⟨0, Nat.zero_le _, by omega, rfl, HO3.out, HB3.out⟩
    case round =>
      obtain ⟨k, hkm, hgg, rfl, HO, HB⟩ := hrel
      by_cases hlt : k < m
      · have hlz : (k : Int) < (m : Int) := by omega
        have hkl : k < ys.length := by rw [HN.out]; exact hlt
        have HK := Lib.hid (fun W (hW : Below wr.heap.size wr W) => HRow.out W (HB.out.trans (hW.mono HB.out.size)) k hlt)
        have hst := joinC_take (a := xs) hkl
        have hxm : ys[k]! ∈ ys := by rw [getElem!_pos ys k hkl]; exact List.getElem_mem hkl
        have hok := ((CV.ok_iff _).1 (HGd.out.1 _ hxm)).2
        have hjl := joinC_len (ys.take k) xs
        have hx2 := HX.out
        rw [List.length_take] at hjl
        have HAdd := Lib.hid (fun W (hW : Below wr.heap.size wr W) => gadd_any (joinC xs (ys.take k)) (ys[k]!).t (ys[k]!).n u5 W (by omega) (by omega) (HO.out.below hW).is)
        rw [← hst] at HAdd
        clear hst hxm hjl HRow hx2 hok
        generalize hnx : joinC xs (ys.take (k + 1)) = nxt at *
        have HNx := Lib.hid hnx
        clear hnx
        generalize ys[k]! = y at *
        obtain ⟨⟨d, c0, c1, c2, c3⟩, yn⟩ := y
        have HAdd : Hid (∀ W, Below wr.heap.size wr W → Calls Try.prog 30 #[u5, .agg #[.int .i64 d, .int .i64 c0, .int .i64 c1, .int .i64 c2, .int .i64 c3], .int .i64 yn] W (RC.Made nxt W)) := HAdd.out
        have HK : Hid (∀ W, Below wr.heap.size wr W → W.cell? ⟨b, off + k * 6, none⟩ = some (.int .i64 d) ∧ W.cell? ⟨b, off + k * 6 + 1, none⟩ = some (.int .i64 c0) ∧ W.cell? ⟨b, off + k * 6 + 2, none⟩ = some (.int .i64 c1) ∧ W.cell? ⟨b, off + k * 6 + 3, none⟩ = some (.int .i64 c2) ∧ W.cell? ⟨b, off + k * 6 + 4, none⟩ = some (.int .i64 c3) ∧ W.cell? ⟨b, off + k * 6 + 5, none⟩ = some (.int .i64 yn)) := HK.out
        obtain ⟨e0, e1, e2, e3, e4, e5⟩ := HK.out wr (Below.refl _ _)
        have HW2 := Lib.hid HB.out.size
        go_wp2_with fail
        go_region_held_law (fun w' => w'.cell? ⟨b, off + k * 6, none⟩ = some (.int .i64 d) ∧ w'.cell? ⟨b, off + k * 6 + 1, none⟩ = some (.int .i64 c0) ∧ w'.cell? ⟨b, off + k * 6 + 2, none⟩ = some (.int .i64 c1) ∧ w'.cell? ⟨b, off + k * 6 + 3, none⟩ = some (.int .i64 c2) ∧ w'.cell? ⟨b, off + k * 6 + 4, none⟩ = some (.int .i64 c3) ∧ w'.cell? ⟨b, off + k * 6 + 5, none⟩ = some (.int .i64 yn)) (first | exact HK.out _ (by assumption) | assumption | go_keep) (first
          | (go_at_call 30; (with_reducible refine Calls.mono (HAdd.out _ (Below.refl _ _).drew) ?_); rintro e w5 ⟨v5, rfl, hO5, hb5⟩; have hB5 : Below wr.heap.size wr w5 := (Below.refl _ _).drew.trans hb5))
        all_goals
          have HO5 := Lib.hid (hO5.mono HW2.out)
          have HB5 := Lib.hid (HB.out.trans (hB5.mono HB.out.size))
          clear hO5 hb5 hB5 HO
          try simp only [List.getElem_toArray, List.getElem_cons_succ, List.getElem_cons_zero, Act.put, List.setIfInBounds_toArray, List.set_cons_zero, List.set_cons_succ]
          go_wp2
          go_roundg (m - (k + 1))
          case measure => omega
          case rel =>
            refine ⟨k + 1, by omega, by omega, by go_num, ?_, HB5.out⟩
            show RC.Own _ _ _ _
            rw [HNx.out]
            exact HO5.out
      · have hlz : ¬ (k : Int) < (m : Int) := by omega
        have hkm2 : k = m := by omega
        subst hkm2
        have HX2 : Hid (RC.Own w.heap.size wr u5 res) := by
          have h := HO.out
          rw [List.take_of_length_le (by rw [HN.out]; exact Nat.le_refl _), ← HRes.out] at h
          exact h
        clear HO HRow
        go_wp2
        go_returns
        exact ⟨_, rfl, HX2.out, HB.out⟩
end Go.Proofs.Ytcaolilhemamiaa
/- the document's At and Frontier on counts -/
namespace Go.Proofs.Ytcaolilhemamiaa
open Go.RowKit
set_option linter.unusedVariables false
set_option linter.unusedSimpArgs false
attribute [local go_sem ↓] eqTime neTime

set_option maxRecDepth 100000 in
set_option maxHeartbeats 8000000 in
theorem gat_row (xs : List CV) (u : TV) (b off cap : Nat) (w : World) (hl : xs.length ≤ 900000) (hb : b < w.heap.size) (hr : RC.Row w b off xs) (h0 : xs ≠ []) :
    Calls Try.prog 34 #[.slice (some ⟨b, off, none⟩) xs.length cap, u.val] w (Ret (.int .i64 (atR xs u)) w) := by
  have hrow : Hid (∀ (W : World), Below w.heap.size w W → ∀ j, j < xs.length → _) := fun W hW j hj => atC (hr.below hW hb) j hj
  have HRT := Lib.hid (fun (W : World) (hW : Below w.heap.size w W) => gright_any xs (.slice (some ⟨b, off, none⟩) xs.length cap) W hl (.inr ⟨h0, b, off, cap, rfl, Nat.lt_of_lt_of_le hb hW.size, hr.below hW hb⟩))
  have hno : rightC xs = false → atR xs u = 0 := fun h => by unfold atR; rw [h]; rfl
  have hyes : rightC xs = true → atR xs u = lastN xs u := fun h => by rw [lastN_is u ((rightC_iff xs).1 h)]; unfold atR; rw [h]; rfl
  generalize rightC xs = q at HRT hno hyes
  generalize atR xs u = res at hno hyes ⊢
  have HNo := Lib.hid hno; have HYes := Lib.hid hyes
  clear hr hno hyes
  have hpos : 0 < xs.length := List.length_pos_iff.2 h0
  clear h0
  generalize hn : xs.length = n at hl HRT hrow hpos
  have HN := Lib.hid hn
  clear hn
  have hnz : (0 : Int) < (n : Int) := by omega
  obtain ⟨d, c0, c1, c2, c3⟩ := u
  show Calls _ _ #[_, .agg #[.int .i64 d, .int .i64 c0, .int .i64 c1, .int .i64 c2, .int .i64 c3]] _ _
  go_enter Try.func34, Try.ntmps34
  go_wp2_with fail
  have HB0 := Lib.hid ((Below.refl w.heap.size w).alloc (Nat.le_refl _) (.cells #[.int .i64 d, .int .i64 c0, .int .i64 c1, .int .i64 c2, .int .i64 c3] 26))
  refine (HRT.out _ HB0.out).mono ?_
  rintro e w1 ⟨rfl, hb1⟩
  have hBx := (Own5.new w (.int .i64 d) (.int .i64 c0) (.int .i64 c1) (.int .i64 c2) (.int .i64 c3) 26).below hb1 (by simp)
  have HB1 := Lib.hid (HB0.out.trans (hb1.mono HB0.out.size))
  have hl1 : w.heap.size < w1.heap.size := by have := hb1.size; simp at this; omega
  have HU5 : Hid (∀ W, Below w1.heap.size w1 W → Own5 W w.heap.size (.int .i64 d) (.int .i64 c0) (.int .i64 c1) (.int .i64 c2) (.int .i64 c3)) := fun W hW => hBx.below hW hl1
  clear hb1 HRT hBx
  cases q
  · go_wp2
    refine wp_loop_rounds 1 ?_
    rw [rounds_succ]
    go_wp2
    go_returns
    exact ⟨by rw [HNo.out (by trivial)]; rfl, HB1.out⟩
  · clear HNo
    go_wp2
    go_loopg [5, 7] n (fun gg vm i wr => ∃ (k : Nat), k ≤ n ∧ n - k ≤ gg ∧ i = .int .i64 k ∧ Hid (Below w1.heap.size w1 wr) ∧ vm = .int .i64 (lastN (xs.take k) ⟨d, c0, c1, c2, c3⟩))
    case atStart => exact ⟨0, Nat.zero_le _, by omega, rfl, Below.refl _ _, rfl⟩
    case round =>
      obtain ⟨k, hkn, hg, rfl, HB, rfl⟩ := hrel
      by_cases hlt : k < n
      · have hlz : (k : Int) < (n : Int) := by omega
        have HRK0 := Lib.hid (fun W (hW : Below w1.heap.size w1 W) => hrow.out W (HB1.out.trans (hW.mono HB1.out.size)) k hlt)
        have hst := lastN_take (b := xs) (u := ⟨d, c0, c1, c2, c3⟩) (k := k) (by rw [HN.out]; exact hlt)
        generalize hnx : lastN (xs.take (k + 1)) ⟨d, c0, c1, c2, c3⟩ = nx at *
        have HNX := Lib.hid hnx
        clear hnx
        generalize lastN (xs.take k) ⟨d, c0, c1, c2, c3⟩ = mx at *
        generalize xs[k]! = c at *
        obtain ⟨⟨xd, x0, x1, x2, x3⟩, m⟩ := c
        have HRK : Hid (∀ W, Below w1.heap.size w1 W → W.cell? ⟨b, off + k * 6, none⟩ = some (.int .i64 xd) ∧ W.cell? ⟨b, off + k * 6 + 1, none⟩ = some (.int .i64 x0) ∧ W.cell? ⟨b, off + k * 6 + 2, none⟩ = some (.int .i64 x1) ∧ W.cell? ⟨b, off + k * 6 + 3, none⟩ = some (.int .i64 x2) ∧ W.cell? ⟨b, off + k * 6 + 4, none⟩ = some (.int .i64 x3) ∧ W.cell? ⟨b, off + k * 6 + 5, none⟩ = some (.int .i64 m)) := HRK0.out
        have HST : Hid (nx = if eqT ⟨xd, x0, x1, x2, x3⟩ ⟨d, c0, c1, c2, c3⟩ = true then m else mx) := hst
        clear hst HRK0
        obtain ⟨r0, r1, r2, r3, r4, _, _, _, _, _⟩ := HU5.out wr HB.out
        have e0 := fun p => beh_cell (HRK.out _ HB.out).1 p; have e1 := fun p => beh_cell (HRK.out _ HB.out).2.1 p; have e2 := fun p => beh_cell (HRK.out _ HB.out).2.2.1 p; have e3 := fun p => beh_cell (HRK.out _ HB.out).2.2.2.1 p; have e4 := fun p => beh_cell (HRK.out _ HB.out).2.2.2.2.1 p
        replace r0 := fun p => beh_cell r0 p
        replace r1 := fun p => beh_cell r1 p
        replace r2 := fun p => beh_cell r2 p
        replace r3 := fun p => beh_cell r3 p
        replace r4 := fun p => beh_cell r4 p
        generalize hq : eqT ⟨xd, x0, x1, x2, x3⟩ ⟨d, c0, c1, c2, c3⟩ = qq at HST
        go_wp2_with fail
        refine wp_region_beh (by kernel_rfl) (by kernel_rfl) ?_
        repeat (first | go_big_quiet_step (fail) | quiet_step (fail))
        refine wpQuiet_nil ?_
        intro _ hw'
        obtain ⟨gg2, hw''⟩ := hw'
        subst hw''
        replace HB := Lib.hid (HB.out.trans (gg2.h.mono HB.out.size))
        clear e0 e1 e2 e3 e4 r0 r1 r2 r3 r4
        generalize gg2.w = wq at *
        clear gg2
        obtain ⟨e0, e1, e2, e3, e4, e5⟩ := HRK.out _ HB.out
        cases qq with
        | true =>
          have HS : Hid (nx = m) := HST.out
          clear HST hrow HRK HU5 e0 e1 e2 e3 e4
          go_wp2
          go_roundg (n - (k + 1))
          case measure => omega
          case rel => exact ⟨k + 1, by omega, by omega, by go_num, HB.out, by rw [HNX.out, HS.out]⟩
        | false =>
          have HS : Hid (nx = mx) := HST.out
          clear HST hrow HRK HU5 e0 e1 e2 e3 e4 e5
          go_wp2
          go_roundg (n - (k + 1))
          case measure => omega
          case rel => exact ⟨k + 1, by omega, by omega, by go_num, HB.out, by rw [HNX.out, HS.out]⟩
      · have hlz : ¬ (k : Int) < (n : Int) := by omega
        have : k = n := by omega
        subst this
        have HX : Hid (res = lastN (xs.take k) ⟨d, c0, c1, c2, c3⟩) := by
          have h := HYes.out (by trivial)
          rw [List.take_of_length_le (by rw [HN.out]; exact Nat.le_refl _)]
          exact h
        generalize lastN (xs.take k) ⟨d, c0, c1, c2, c3⟩ = mx at *
        clear hrow
        go_wp2
        go_returns
        exact ⟨by rw [HX.out]; rfl, HB1.out.trans (HB.out.mono HB1.out.size)⟩
set_option maxHeartbeats 2000000 in
theorem gat_nil (p : Option Addr) (cap : Nat) (u : TV) (w : World) : Calls Try.prog 34 #[.slice p 0 cap, u.val] w (Ret (.int .i64 (atR [] u)) w) := by
  have HRT := Lib.hid (fun W => gright_nil p cap W)
  have HB0 := Lib.hid ((Below.refl w.heap.size w).alloc (Nat.le_refl _) (.cells #[.int .i64 u.d, .int .i64 u.c0, .int .i64 u.c1, .int .i64 u.c2, .int .i64 u.c3] 26))
  go_enter Try.func34, Try.ntmps34
  go_wp2_with fail
  refine (HRT.out _).mono ?_
  rintro e w1 ⟨rfl, hb1⟩
  have HB1 := Lib.hid (HB0.out.trans (hb1.mono HB0.out.size))
  have hr : rightC [] = true := by decide
  rw [hr]
  clear hb1 HRT
  go_wp2
  refine wp_loop_rounds 1 ?_
  rw [rounds_succ]
  go_wp2
  go_returns
  exact ⟨rfl, HB1.out⟩
theorem gat_any (xs : List CV) (u : TV) (v : Value) (w : World) (hl : xs.length ≤ 900000) (h : RC.Is w v xs) : Calls Try.prog 34 #[v, u.val] w (Ret (.int .i64 (atR xs u)) w) := by
  rcases h with ⟨rfl, p, cap, rfl, _⟩ | ⟨h0, b, off, cap, rfl, hb, hr⟩
  · exact gat_nil p cap u w
  · exact gat_row xs u b off cap w hl hb hr h0
end Go.Proofs.Ytcaolilhemamiaa
/- the document's Frontier on counts -/
namespace Go.Proofs.Ytcaolilhemamiaa
open Go.RowKit
set_option linter.unusedVariables false
set_option linter.unusedSimpArgs false

set_option maxRecDepth 100000 in
set_option maxHeartbeats 4000000 in
theorem gfrontier_row (xs : List CV) (b off cap : Nat) (w : World) (hl : xs.length ≤ 400000) (hb : b < w.heap.size) (hr : RC.Row w b off xs) (h0 : xs ≠ []) :
    Calls Try.prog 37 #[.slice (some ⟨b, off, none⟩) xs.length cap] w (RT.Made (frontC xs) w) := by
  have hrow : Hid (∀ (W : World), Below w.heap.size w W → ∀ j, j < xs.length → _) := fun W hW j hj => atC (hr.below hW hb) j hj
  have HRT := Lib.hid (gright_any xs (.slice (some ⟨b, off, none⟩) xs.length cap) w (by omega) (.inr ⟨h0, b, off, cap, rfl, hb, hr⟩))
  have hno : rightC xs = false → frontC xs = ofT [] := fun h => by unfold frontC; rw [h, List.eq_nil_of_length_eq_zero (Nat.le_zero.1 (ofT_length []))]; rfl
  have hyes : rightC xs = true → frontC xs = ofT (thereC xs) := fun h => by unfold frontC; rw [h]; rfl
  have hOF := Lib.hid (fun (v : Value) (W : World) (h : RT.Is W v (thereC xs)) => refOf_any (thereC xs) v W (Nat.le_trans (there_length xs) hl) h)
  have hON := Lib.hid (fun (W : World) => refOf_any [] (.slice none 0 0) W (by simp) (IsT.nil W))
  generalize rightC xs = q at HRT hno hyes
  generalize frontC xs = res at hno hyes ⊢
  have HNo := Lib.hid hno; have HYes := Lib.hid hyes
  clear hr hno hyes
  have hpos : 0 < xs.length := List.length_pos_iff.2 h0
  clear h0
  generalize hn : xs.length = n at hl HRT hrow hpos
  have HN := Lib.hid hn
  clear hn
  have hnz : (0 : Int) < (n : Int) := by omega
  go_enter Try.func37, Try.ntmps37
  go_wp2_with fail
  refine (HRT.out).mono ?_
  rintro e w1 ⟨rfl, hb1⟩
  have HB1 := Lib.hid hb1
  clear hb1 HRT
  cases q
  · go_wp2
    refine wp_loop_rounds 1 ?_
    rw [rounds_succ]
    go_wp2_with fail
    refine (hON.out _).mono ?_
    rintro e w4 ⟨v4, rfl, hO4, hB4⟩
    have HO4 := Lib.hid (hO4.mono HB1.out.size)
    have HB4 := Lib.hid (HB1.out.trans (hB4.mono HB1.out.size))
    clear hO4 hB4 hON hOF
    go_wp2
    go_returns
    exact ⟨_, rfl, by rw [HNo.out (by trivial)]; exact HO4.out, HB4.out⟩
  · clear HNo hON
    go_wp2
    go_loopg [3, 5] n (fun gg v i wr => ∃ k : Nat, k ≤ n ∧ n - k ≤ gg ∧ i = .int .i64 k ∧ Hid (Below w.heap.size w wr) ∧ Hid (RT.Own w.heap.size wr v (thereC (xs.take k))))
    case atStart => exact ⟨0, Nat.zero_le _, by omega, rfl, HB1.out, RowKind.Own.nil RT _ _⟩
    case round =>
      obtain ⟨k, hkn, hg, rfl, HB, HO⟩ := hrel
      by_cases hlt : k < n
      · have hlz : (k : Int) < (n : Int) := by omega
        have hc := hrow.out wr HB.out k hlt
        have hts := there_take_succ (xs := xs) (k := k) (by rw [HN.out]; exact hlt)
        have hlen : (thereC (xs.take k)).length ≤ 900000 := by
          have h1 := there_length (xs.take k)
          rw [List.length_take] at h1
          omega
        generalize thereC (xs.take k) = acc at HO hts hlen
        generalize xs[k]! = c at hc hts
        obtain ⟨t, m⟩ := c
        obtain ⟨e0, e1, e2, e3, e4, e5⟩ := hc
        try simp only at e0 e1 e2 e3 e4 e5 hts
        have hz := HB.out.size
        clear hrow hOF
        by_cases hm : 0 < m
        · rw [if_pos hm] at hts
          have HTS := Lib.hid hts
          clear hts
          go_wp2_with (at_builtin; refine RowKind.Own.push (R := RT) (y := t) HO.out HB.out hz rfl _ _ rfl rfl _ rfl hlen (Nat.le_refl _) ?_; intro v2 w2 hO2 hB2 hz2)
          go_roundg (n - (k + 1))
          case measure => omega
          case rel =>
            refine ⟨k + 1, by omega, by omega, by go_num, hB2, ?_⟩
            show RT.Own _ _ _ _
            rw [HTS.out]
            exact hO2
        · rw [if_neg hm, List.append_nil] at hts
          have HTS := Lib.hid hts
          clear hts
          go_wp2
          go_roundg (n - (k + 1))
          case measure => omega
          case rel =>
            refine ⟨k + 1, by omega, by omega, by go_num, HB.out, ?_⟩
            show RT.Own _ _ _ _
            rw [HTS.out]
            exact HO.out
      · have hlz : ¬ (k : Int) < (n : Int) := by omega
        have : k = n := by omega
        subst this
        have HX : Hid (RT.Own w.heap.size wr u3 (thereC xs)) := by
          have h := HO.out
          rw [List.take_of_length_le (by rw [HN.out]; exact Nat.le_refl _)] at h
          exact h
        have HF := Lib.hid (hOF.out u3 wr HX.out.is)
        clear HO hrow hOF
        go_wp2_with fail
        refine (HF.out).mono ?_
        rintro e w4 ⟨v4, rfl, hO4, hB4⟩
        have HO4 := Lib.hid (hO4.mono HB.out.size)
        have HB4 := Lib.hid (HB.out.trans (hB4.mono HB.out.size))
        clear hO4 hB4 HF
        go_wp2
        go_returns
        exact ⟨_, rfl, by rw [HYes.out (by trivial)]; exact HO4.out, HB4.out⟩
set_option maxRecDepth 100000 in
set_option maxHeartbeats 4000000 in
theorem gfrontier_nil (p : Option Addr) (cap : Nat) (w : World) : Calls Try.prog 37 #[.slice p 0 cap] w (RT.Made (frontC []) w) := by
  have HRT := Lib.hid (gright_nil p cap w)
  have hr : rightC [] = true := by decide
  have hf : frontC [] = ofT [] := by unfold frontC; rw [hr]; rfl
  rw [hr] at HRT
  rw [hf]
  have HF := Lib.hid (fun W => refOf_any [] (.slice none 0 0) W (by simp) (IsT.nil W))
  go_enter Try.func37, Try.ntmps37
  go_wp2_with fail
  refine (HRT.out).mono ?_
  rintro e w1 ⟨rfl, hb1⟩
  have HB1 := Lib.hid hb1
  clear hb1 HRT
  go_wp2
  refine wp_loop_rounds 1 ?_
  rw [rounds_succ]
  go_wp2_with fail
  refine (HF.out _).mono ?_
  rintro e w4 ⟨v4, rfl, hO4, hB4⟩
  have HO4 := Lib.hid (hO4.mono HB1.out.size)
  have HB4 := Lib.hid (HB1.out.trans (hB4.mono HB1.out.size))
  clear hO4 hB4 HF
  go_wp2
  go_returns
  exact ⟨_, rfl, HO4.out, HB4.out⟩
theorem gfrontier_any (xs : List CV) (v : Value) (w : World) (hl : xs.length ≤ 400000) (h : RC.Is w v xs) : Calls Try.prog 37 #[v] w (RT.Made (frontC xs) w) := by
  rcases h with ⟨rfl, p, cap, rfl, _⟩ | ⟨h0, b, off, cap, rfl, hb, hr⟩
  · exact gfrontier_nil p cap w
  · exact gfrontier_row xs b off cap w hl hb hr h0
end Go.Proofs.Ytcaolilhemamiaa
/- the law FrontRight -/
namespace Go.Proofs.Ytcaolilhemamiaa
open Go.RowKit
set_option linter.unusedVariables false
set_option linter.unusedSimpArgs false
attribute [local go_sem ↓] run_imin

theorem tot_end {A : List CV} {m k : Nat} {s : Int} (hm : A.length = m) (h : 0 < k → rightC A = true) (hs : s = sumC (A.take k)) (ho : k = m ∨ rightC A = false) : s = totC A := by
  unfold totC
  by_cases hq : rightC A = true
  · rw [if_pos hq]
    rcases ho with rfl | h2
    · rw [hs, List.take_of_length_le (by rw [hm]; exact Nat.le_refl _)]
    · rw [h2] at hq; cases hq
  · have : k = 0 := by
      rcases Nat.eq_zero_or_pos k with h0 | h0
      · exact h0
      · exact absurd (h h0) hq
    subst this
    rw [if_neg hq, hs]; rfl
theorem sum_next {A : List CV} {k : Nat} (hk : k < A.length) : sumC (A.take (k + 1)) = sumC (A.take k) + (A[k]!).n := by rw [take_getA A k hk, sumC_append, sumC_one]
set_option maxRecDepth 100000 in
set_option maxHeartbeats 40000000 in
theorem frontRight_walk (xa xb : List CV) (t : TV) (n : Int) (n1 : -9223372036854775808 ≤ n) (n2 : n ≤ 9223372036854775807) (va vb : Value) (w : World) (ha : RC.Is w va xa) (hb : RC.Is w vb xb) (ka : capOk va) (kb : capOk vb) :
    Calls Try.prog 5 #[va, vb, t.val, .int .i64 n] w (Ret (.bool true) w) := by
  obtain ⟨pa, na, ma, ca, rfl, ea, ja, da, oa, la, HA⟩ := cutRow3 (R := RC) ha ka 60 (by decide)
  obtain ⟨pb, nb, mb, cb, rfl, eb, jb, db, ob, lb, HB⟩ := cutRow3 (R := RC) hb kb 60 (by decide)
  have ea : imin (na : Int) 60 = (ma : Int) := ea
  have eb : imin (nb : Int) 60 = (mb : Int) := eb
  have hN : (xa.take ma).length = ma := by rw [List.length_take]; have := ha.slice; obtain ⟨p, c, e⟩ := this; simp only [Value.slice.injEq] at e; omega
  have HA := Lib.hid HA; have HB := Lib.hid HB
  have Cb : Hid (capOk (.slice pb mb cb)) := fun p n c e => by cases e; exact db
  clear ha hb ka kb ja jb
  generalize xa.take ma = A at *
  generalize xb.take mb = B at *
  obtain ⟨d, c0, c1, c2, c3⟩ := t
  have HRt0 : Hid (∀ W v, RC.Is W v A → Calls Try.prog 26 #[v] W (Ret (.bool (rightC A)) W)) := fun W v h => fright_any A v W (by omega) h
  have HrRt0 : Hid (∀ W, RC.Is W (.slice pa ma ca) A → Calls Try.prog 27 #[.slice pa ma ca] W (Ret (.bool (rightC A)) W)) := fun W h => gright_any A _ W (by omega) h
  have HAd0 : Hid (∀ W v, capOk v → RC.Is W v A → Calls Try.prog 29 #[v, .agg #[.int .i64 d, .int .i64 c0, .int .i64 c1, .int .i64 c2, .int .i64 c3], .int .i64 n] W (AnsC (addC A ⟨d, c0, c1, c2, c3⟩ n) W)) := fun W v h k => frontAdd_any A ⟨d, c0, c1, c2, c3⟩ n v W (by omega) h k
  have HrAd0 : Hid (∀ W, RC.Is W (.slice pa ma ca) A → Calls Try.prog 30 #[.slice pa ma ca, .agg #[.int .i64 d, .int .i64 c0, .int .i64 c1, .int .i64 c2, .int .i64 c3], .int .i64 n] W (RC.Made (addC A ⟨d, c0, c1, c2, c3⟩ n) W)) := fun W h => gadd_any A ⟨d, c0, c1, c2, c3⟩ n _ W (by omega) ⟨n1, n2⟩ h
  have HAl0 : Hid (∀ W v, capOk v → RC.Is W v A → RC.Is W (.slice pb mb cb) B → Calls Try.prog 31 #[v, .slice pb mb cb] W (AnsC (allC A B) W)) := fun W v c h k => frontAll_any A B v _ W (by omega) (by omega) c Cb.out h k
  have HrAl0 : Hid (∀ W, RC.Is W (.slice pa ma ca) A → RC.Is W (.slice pb mb cb) B → Calls Try.prog 32 #[.slice pa ma ca, .slice pb mb cb] W (RC.Made (allC A B) W)) := fun W h k => gall_any A B _ _ W (by omega) (by omega) h k
  have HAt0 : Hid (∀ W v, RC.Is W v A → Calls Try.prog 33 #[v, .agg #[.int .i64 d, .int .i64 c0, .int .i64 c1, .int .i64 c2, .int .i64 c3]] W (Ret (.int .i64 (atR A ⟨d, c0, c1, c2, c3⟩)) W)) := fun W v h => frontAt_any A ⟨d, c0, c1, c2, c3⟩ v W (by omega) h
  have HrAt0 : Hid (∀ W, RC.Is W (.slice pa ma ca) A → Calls Try.prog 34 #[.slice pa ma ca, .agg #[.int .i64 d, .int .i64 c0, .int .i64 c1, .int .i64 c2, .int .i64 c3]] W (Ret (.int .i64 (atR A ⟨d, c0, c1, c2, c3⟩)) W)) := fun W h => gat_any A ⟨d, c0, c1, c2, c3⟩ _ W (by omega) h
  have HTot0 : Hid (∀ W v, RC.Is W v A → Calls Try.prog 35 #[v] W (Ret (.int .i64 (totC A)) W)) := fun W v h => total_any A v W (by omega) h
  have HFr0 : Hid (∀ W v, RC.Is W v A → Calls Try.prog 36 #[v] W (MadeT (frontC A) W)) := fun W v h => frontier_any A v W (by omega) h
  have HrFr0 : Hid (∀ W, RC.Is W (.slice pa ma ca) A → Calls Try.prog 37 #[.slice pa ma ca] W (RT.Made (frontC A) W)) := fun W h => gfrontier_any A _ W (by omega) h
  have l1 := addC_len A ⟨d, c0, c1, c2, c3⟩ n
  have l2 := allC_len A B
  have l3 : (frontC A).length ≤ A.length := by
    unfold frontC
    split
    · exact Nat.le_trans (ofT_length _) (there_length A)
    · simp
  have sm : ∀ L : List CV, L.length ≤ 900000 → Hid (∀ W u v, RC.Is W u L → RC.Is W v L → Calls Try.prog 28 #[u, v] W (Ret (.bool true) W)) := fun L hL W u v h k => by
    have q := gsame_any L L u v W hL hL h k
    rw [decide_eq_true rfl] at q
    exact q
  have HSm1 := sm (addC A ⟨d, c0, c1, c2, c3⟩ n) (by omega)
  have HSm2 := sm (allC A B) (by omega)
  have HSmA0 := sm A (by omega)
  clear sm
  have HSmF : Hid (∀ W u v, RT.Is W u (frontC A) → RT.Is W v (frontC A) → Calls Try.prog 16 #[u, v] W (Ret (.bool true) W)) := fun W u v h k => by
    have q := same_any (frontC A) (frontC A) u v W (by omega) (by omega) h k
    rw [decide_eq_true rfl] at q
    exact q
  have HTt := Lib.hid (fun (k : Nat) (s : Int) h1 h2 h3 => tot_end (A := A) (m := ma) (k := k) (s := s) hN h1 h2 h3)
  have HBd := Lib.hid (fun (h : rightC A = true) (j : Nat) (hj : j < A.length) => right_n h hj)
  have HL1 : Hid (([] : List CV).length + A.length ≤ 1000000) := by show _ ≤ _; simp; omega
  have HN := Lib.hid hN
  have la2 := la
  clear l1 l2 l3 la lb n1 n2 hN la2
  generalize addC A ⟨d, c0, c1, c2, c3⟩ n = R1 at *
  generalize allC A B = R2 at *
  generalize frontC A = R3 at *
  generalize atR A ⟨d, c0, c1, c2, c3⟩ = av at *
  generalize totC A = tt at *
  generalize rightC A = q at *
  have HAW := Lib.hid frontAwake
  show Calls _ _ #[_, _, .agg #[.int .i64 d, .int .i64 c0, .int .i64 c1, .int .i64 c2, .int .i64 c3], _] _ _
  go_enter Try.func5, Try.ntmps5
  go_wp2_with fail
  refine (HAW.out _).mono ?_
  rintro e w1 ⟨rfl, hb1⟩
  have hB0 : Below w.heap.size w (w.alloc (.cells #[.int .i64 d, .int .i64 c0, .int .i64 c1, .int .i64 c2, .int .i64 c3] 26)) := (Below.refl _ w).alloc (Nat.le_refl _) _
  have X1 := (Boxed.new w #[.int .i64 d, .int .i64 c0, .int .i64 c1, .int .i64 c2, .int .i64 c3] 26).below hb1 (by simp)
  have HBx : Hid (∀ W, Below w1.heap.size w1 W → W.cell? ⟨w.heap.size, 0, none⟩ = some (.int .i64 d) ∧ W.cell? ⟨w.heap.size, 1, none⟩ = some (.int .i64 c0) ∧ W.cell? ⟨w.heap.size, 2, none⟩ = some (.int .i64 c1) ∧ W.cell? ⟨w.heap.size, 3, none⟩ = some (.int .i64 c2) ∧ W.cell? ⟨w.heap.size, 4, none⟩ = some (.int .i64 c3)) := fun W hW => ⟨(X1.below hW X1.lt).cell 0, (X1.below hW X1.lt).cell 1, (X1.below hW X1.lt).cell 2, (X1.below hW X1.lt).cell 3, (X1.below hW X1.lt).cell 4⟩
  have HA1 := Lib.hid ((HA.out.below hB0).below hb1)
  have HB1 := Lib.hid ((HB.out.below hB0).below hb1)
  have HW1 := Lib.hid (hB0.trans (hb1.mono hB0.size))
  have hlw : w.heap.size < w1.heap.size := X1.lt
  clear hb1 hB0 X1 HA HB HAW
  go_wp2_with fail
  go_quiet (fail)
  refine gen_q3 (fun W2 => Below w1.heap.size w1 W2) (below_drewN (Below.refl _ _) _) ?_
  rintro w2 hb2
  have HA2 := Lib.hid (HA1.out.below hb2); have HB2 := Lib.hid (HB1.out.below hb2)
  have HO0 := Lib.hid (show RC.Own w2.heap.size (w2.alloc (.cells #[] 52)) (.slice (some ⟨w2.heap.size, 0, none⟩) 0 0) [] from World.ownsRow_made w2 #[] 0 (Nat.le_refl _) (Nat.zero_le _) rfl)
  have HBe := Lib.hid ((Below.refl w2.heap.size w2).alloc (Nat.le_refl _) (.cells #[] 52))
  have HZe := Lib.hid HBe.out.size
  have HA3 := Lib.hid (HA2.out.below HBe.out)
  have HWa := Lib.hid hb2
  clear hb2 HA1 HB1
  go_upto_region 5 with (at_builtin; refine RowKind.Own.appendAny (R := RC) (ys := A) HO0.out HBe.out HZe.out rfl _ _ rfl rfl rfl HA3.out HL1.out ?_; intro v4 w4 hO4 hB4 hz4)
  have HM : Hid (RC.Is w4 v4 A) := hO4.is
  have HCm : Hid (capOk v4) := ownCap hO4
  have HA4 := Lib.hid (HA2.out.below hB4); have HB4 := Lib.hid (HB2.out.below hB4)
  have HWb := Lib.hid (HWa.out.trans (hB4.mono HWa.out.size))
  have HRt := Lib.hid (fun W (h : Below w4.heap.size w4 W) => HRt0.out W v4 (HM.out.below h))
  have HrRt := Lib.hid (fun W (h : Below w4.heap.size w4 W) => HrRt0.out W (HA4.out.below h))
  have HAd := Lib.hid (fun W (h : Below w4.heap.size w4 W) => HAd0.out W v4 HCm.out (HM.out.below h))
  have HrAd := Lib.hid (fun W (h : Below w4.heap.size w4 W) => HrAd0.out W (HA4.out.below h))
  have HAl := Lib.hid (fun W (h : Below w4.heap.size w4 W) => HAl0.out W v4 HCm.out (HM.out.below h) (HB4.out.below h))
  have HrAl := Lib.hid (fun W (h : Below w4.heap.size w4 W) => HrAl0.out W (HA4.out.below h) (HB4.out.below h))
  have HAt := Lib.hid (fun W (h : Below w4.heap.size w4 W) => HAt0.out W v4 (HM.out.below h))
  have HrAt := Lib.hid (fun W (h : Below w4.heap.size w4 W) => HrAt0.out W (HA4.out.below h))
  have HTot := Lib.hid (fun W (h : Below w4.heap.size w4 W) => HTot0.out W v4 (HM.out.below h))
  have HFr := Lib.hid (fun W (h : Below w4.heap.size w4 W) => HFr0.out W v4 (HM.out.below h))
  have HrFr := Lib.hid (fun W (h : Below w4.heap.size w4 W) => HrFr0.out W (HA4.out.below h))
  have HSmA := Lib.hid (fun W (h : Below w4.heap.size w4 W) => HSmA0.out W v4 (.slice pa ma ca) (HM.out.below h) (HA4.out.below h))
  have HB5 := Lib.hid (fun W (hW : Below w4.heap.size w4 W) => HBx.out W (HWb.out.trans (hW.mono HWb.out.size)))
  have hl4 : w.heap.size < w4.heap.size := Nat.lt_of_lt_of_le hlw HWb.out.size
  have hn4 : w.heap.size ≠ w4.heap.size := Nat.ne_of_lt hl4
  clear hO4 hB4 hz4 HO0 HBe HZe HA3 HA2 HB2 HL1 HBx HWa hlw HRt0 HrRt0 HAd0 HrAd0 HAl0 HrAl0 HAt0 HrAt0 HTot0 HFr0 HrFr0 HSmA0 HM HCm HB4 Cb
  go_cut [53] from 27 to 53 (fun c wx => c = .bool false ∧ Below w4.heap.size w4 wx)
  case first =>
    clear HAt HrAt HTot HFr HrFr HSmF HSmA HTt HBd HA4 HN
    have hc : Below w4.heap.size w4 w4.drew := (Below.refl _ _).drew
    obtain ⟨r0, r1, r2, r3, r4⟩ := HB5.out w4 (Below.refl _ _)
    go_region_held_law (fun w' => w'.cell? ⟨w.heap.size, 0, none⟩ = some (.int .i64 d) ∧ w'.cell? ⟨w.heap.size, 1, none⟩ = some (.int .i64 c0) ∧ w'.cell? ⟨w.heap.size, 2, none⟩ = some (.int .i64 c1) ∧ w'.cell? ⟨w.heap.size, 3, none⟩ = some (.int .i64 c2) ∧ w'.cell? ⟨w.heap.size, 4, none⟩ = some (.int .i64 c3)) (first | exact HB5.out _ hc | go_keep) (first
    | (go_at_call 28; (with_reducible refine Calls.mono (HSm2.out _ _ _ hP1 hP2) ?_); rintro e wn ⟨rfl, hb⟩; replace hc := hc.trans (hb.mono hc.size); clear hb)
    | (go_at_call 28; (with_reducible refine Calls.mono (HSm1.out _ _ _ hI1 hI2) ?_); rintro e wn ⟨rfl, hb⟩; (try clear hI1 hI2); replace hc := hc.trans (hb.mono hc.size); clear hb)
    | (go_at_call 26; (with_reducible refine Calls.mono (HRt.out _ hc) ?_); rintro e wn ⟨rfl, hb⟩; (try replace hI1 := hI1.below hb); (try replace hI2 := hI2.below hb); (try replace hP1 := hP1.below hb); (try replace hP2 := hP2.below hb); replace hc := hc.trans (hb.mono hc.size); clear hb)
    | (go_at_call 27; (with_reducible refine Calls.mono (HrRt.out _ hc) ?_); rintro e wn ⟨rfl, hb⟩; (try replace hI1 := hI1.below hb); (try replace hI2 := hI2.below hb); (try replace hP1 := hP1.below hb); (try replace hP2 := hP2.below hb); replace hc := hc.trans (hb.mono hc.size); clear hb)
    | (go_at_call 29; (with_reducible refine Calls.mono (HAd.out _ hc) ?_); rintro e wn ⟨v1, rfl, hJ, _, hb⟩; (try replace hI1 := hI1.below hb); (try replace hI2 := hI2.below hb); (try replace hP1 := hP1.below hb); (try replace hP2 := hP2.below hb); have hI1 := hJ; clear hJ; replace hc := hc.trans (hb.mono hc.size); clear hb)
    | (go_at_call 30; (with_reducible refine Calls.mono (HrAd.out _ hc) ?_); rintro e wn ⟨v2, rfl, hJ, hb⟩; (try replace hI1 := hI1.below hb); (try replace hI2 := hI2.below hb); (try replace hP1 := hP1.below hb); (try replace hP2 := hP2.below hb); have hI2 := hJ.is; clear hJ; replace hc := hc.trans (hb.mono hc.size); clear hb)
    | (go_at_call 31; (with_reducible refine Calls.mono (HAl.out _ hc) ?_); rintro e wn ⟨v7, rfl, hJ, _, hb⟩; (try replace hI1 := hI1.below hb); (try replace hI2 := hI2.below hb); (try replace hP1 := hP1.below hb); (try replace hP2 := hP2.below hb); have hP1 := hJ; clear hJ; replace hc := hc.trans (hb.mono hc.size); clear hb)
    | (go_at_call 32; (with_reducible refine Calls.mono (HrAl.out _ hc) ?_); rintro e wn ⟨v8, rfl, hJ, hb⟩; (try replace hI1 := hI1.below hb); (try replace hI2 := hI2.below hb); (try replace hP1 := hP1.below hb); (try replace hP2 := hP2.below hb); have hP2 := hJ.is; clear hJ; replace hc := hc.trans (hb.mono hc.size); clear hb))
    all_goals
      try simp only [List.getElem_toArray, List.getElem_cons_succ, List.getElem_cons_zero, Act.put, List.setIfInBounds_toArray, List.set_cons_zero, List.set_cons_succ]
      go_wp2_with fail
      go_meet
      case rel => exact ⟨rfl, hc⟩
  case rest =>
    obtain ⟨rfl, hW⟩ := hcut
    have HWc := Lib.hid hW
    clear hW HRt HAd HrAd HAl HrAl HSm1 HSm2
    go_wp2
    go_loopg [10, 11] ma (fun gg v i wr => ∃ (k : Nat) (s : Int), k ≤ ma ∧ ma - k ≤ gg ∧ i = .int .i64 k ∧ v = .int .i64 s ∧ -((k : Int) * 2147483648) ≤ s ∧ s ≤ (k : Int) * 2147483648 ∧ Hid (Below w4.heap.size w4 wr) ∧ Hid (0 < k → q = true) ∧ Hid (s = sumC (A.take k)))
    case atStart => exact ⟨0, 0, Nat.zero_le _, by omega, rfl, rfl, by omega, by omega, HWc.out, fun h => absurd h (by omega), rfl⟩
    case round =>
      obtain ⟨k, s, hkn, hgg, rfl, rfl, hs1, hs2, HB, HQ, HS⟩ := hrel
      by_cases hlt : k < ma
      · have hlz : (k : Int) < (ma : Int) := by omega
        go_wp2_with fail
        refine (HrRt.out _ HB.out).mono ?_
        rintro e wn ⟨rfl, hb⟩
        replace HB := Lib.hid (HB.out.trans (hb.mono HB.out.size))
        clear hb
        cases q
        · have hs := HTt.out k s HQ.out HS.out (.inr rfl)
          subst hs
          have hc : Below w4.heap.size w4 wn.drew := HB.out.drew
          obtain ⟨r0, r1, r2, r3, r4⟩ := HB5.out wn HB.out
          have hlc : w.heap.size < wn.heap.size := Nat.lt_of_lt_of_le hl4 HB.out.size
          clear HrRt HTt HBd HQ HS hs1 hs2
          go_wp2_with fail
          go_region_held_law (fun w' => w'.cell? ⟨w.heap.size, 0, none⟩ = some (.int .i64 d) ∧ w'.cell? ⟨w.heap.size, 1, none⟩ = some (.int .i64 c0) ∧ w'.cell? ⟨w.heap.size, 2, none⟩ = some (.int .i64 c1) ∧ w'.cell? ⟨w.heap.size, 3, none⟩ = some (.int .i64 c2) ∧ w'.cell? ⟨w.heap.size, 4, none⟩ = some (.int .i64 c3)) (first | exact HB5.out _ hc | go_keep) (first
              | (go_at_call 33; (with_reducible refine Calls.mono (HAt.out _ hc) ?_); rintro e wn ⟨rfl, hb⟩; (try replace hF1 := hF1.below hb); (try replace hF2 := hF2.below hb); replace hc := hc.trans (hb.mono hc.size); clear hb)
              | (go_at_call 34; (with_reducible refine Calls.mono (HrAt.out _ hc) ?_); rintro e wn ⟨rfl, hb⟩; (try replace hF1 := hF1.below hb); (try replace hF2 := hF2.below hb); replace hc := hc.trans (hb.mono hc.size); clear hb)
              | (go_at_call 35; (with_reducible refine Calls.mono (HTot.out _ hc) ?_); rintro e wn ⟨rfl, hb⟩; (try replace hF1 := hF1.below hb); (try replace hF2 := hF2.below hb); replace hc := hc.trans (hb.mono hc.size); clear hb)
              | (go_at_call 36; (with_reducible refine Calls.mono (HFr.out _ hc) ?_); rintro e wn ⟨vF1, rfl, hJ, hb⟩; (try replace hF1 := hF1.below hb); (try replace hF2 := hF2.below hb); have hF1 := (isT_iff.1 hJ.is); clear hJ; replace hc := hc.trans (hb.mono hc.size); clear hb)
              | (go_at_call 37; (with_reducible refine Calls.mono (HrFr.out _ hc) ?_); rintro e wn ⟨vF2, rfl, hJ, hb⟩; (try replace hF1 := hF1.below hb); (try replace hF2 := hF2.below hb); have hF2 := hJ.is; clear hJ; replace hc := hc.trans (hb.mono hc.size); clear hb)
              | (go_at_call 16; (with_reducible refine Calls.mono (HSmF.out _ _ _ hF1 hF2) ?_); rintro e wn ⟨rfl, hb⟩; (try clear hF1 hF2); replace hc := hc.trans (hb.mono hc.size); clear hb)
              | (go_at_call 28; (with_reducible refine Calls.mono (HSmA.out _ hc) ?_); rintro e wn ⟨rfl, hb⟩; replace hc := hc.trans (hb.mono hc.size); clear hb))
          all_goals
            try simp only [List.getElem_toArray, List.getElem_cons_succ, List.getElem_cons_zero, Act.put, List.setIfInBounds_toArray, List.set_cons_zero, List.set_cons_succ]
            go_wp2
            go_returns
            exact ⟨rfl, HW1.out.trans ((HWb.out.trans (hc.mono HWb.out.size)).mono HW1.out.size)⟩
        · have hkl : k < A.length := by rw [HN.out]; exact hlt
          obtain ⟨b1, b2⟩ := HBd.out (by trivial) k hkl
          have HSum := Lib.hid (sum_next (A := A) hkl)
          rcases HA4.out.below HB.out with ⟨hx, _⟩ | ⟨hne, b, off, cap, eq0, hbl, hrow⟩
          · rw [hx] at hkl; simp at hkl
          simp only [Value.slice.injEq] at eq0
          obtain ⟨rfl, hnx, rfl⟩ := eq0
          have e5 := (atC hrow k hkl).2.2.2.2.2
          clear hnx hrow hne hbl hkl HAt HrAt HTot HFr HrFr HSmF HSmA HTt HBd HA4 HrRt HQ
          have HS2 := Lib.hid HS.out
          generalize A[k]! = x at *
          obtain ⟨tx, m⟩ := x
          have e5 : wn.cell? ⟨b, off + k * 6 + 5, none⟩ = some (.int .i64 m) := e5
          have b1 : -2147483648 ≤ m := b1
          have b2 : m ≤ 2147483648 := b2
          have HSum : Hid (sumC (A.take (k + 1)) = sumC (A.take k) + m) := HSum
          have h1 : -9223372036854775808 ≤ s + m := by omega
          have h2 : s + m ≤ 9223372036854775807 := by omega
          go_wp2
          go_roundg (ma - (k + 1))
          case measure => omega
          case rel => exact ⟨k + 1, s + m, by omega, by omega, by go_num, rfl, by omega, by omega, HB.out, fun _ => by trivial, by show _ = _; rw [HSum.out, ← HS2.out]⟩
      · have hlz : ¬ (k : Int) < (ma : Int) := by omega
        have hkm : k = ma := by omega
        have hs := HTt.out k s HQ.out HS.out (.inl hkm)
        subst hs
        have hc : Below w4.heap.size w4 wr.drew := HB.out.drew
        obtain ⟨r0, r1, r2, r3, r4⟩ := HB5.out wr HB.out
        have hlc : w.heap.size < wr.heap.size := Nat.lt_of_lt_of_le hl4 HB.out.size
        clear HrRt HTt HBd HQ HS hs1 hs2
        go_wp2_with fail
        go_region_held_law (fun w' => w'.cell? ⟨w.heap.size, 0, none⟩ = some (.int .i64 d) ∧ w'.cell? ⟨w.heap.size, 1, none⟩ = some (.int .i64 c0) ∧ w'.cell? ⟨w.heap.size, 2, none⟩ = some (.int .i64 c1) ∧ w'.cell? ⟨w.heap.size, 3, none⟩ = some (.int .i64 c2) ∧ w'.cell? ⟨w.heap.size, 4, none⟩ = some (.int .i64 c3)) (first | exact HB5.out _ hc | go_keep) (first
            | (go_at_call 33; (with_reducible refine Calls.mono (HAt.out _ hc) ?_); rintro e wn ⟨rfl, hb⟩; (try replace hF1 := hF1.below hb); (try replace hF2 := hF2.below hb); replace hc := hc.trans (hb.mono hc.size); clear hb)
            | (go_at_call 34; (with_reducible refine Calls.mono (HrAt.out _ hc) ?_); rintro e wn ⟨rfl, hb⟩; (try replace hF1 := hF1.below hb); (try replace hF2 := hF2.below hb); replace hc := hc.trans (hb.mono hc.size); clear hb)
            | (go_at_call 35; (with_reducible refine Calls.mono (HTot.out _ hc) ?_); rintro e wn ⟨rfl, hb⟩; (try replace hF1 := hF1.below hb); (try replace hF2 := hF2.below hb); replace hc := hc.trans (hb.mono hc.size); clear hb)
            | (go_at_call 36; (with_reducible refine Calls.mono (HFr.out _ hc) ?_); rintro e wn ⟨vF1, rfl, hJ, hb⟩; (try replace hF1 := hF1.below hb); (try replace hF2 := hF2.below hb); have hF1 := (isT_iff.1 hJ.is); clear hJ; replace hc := hc.trans (hb.mono hc.size); clear hb)
            | (go_at_call 37; (with_reducible refine Calls.mono (HrFr.out _ hc) ?_); rintro e wn ⟨vF2, rfl, hJ, hb⟩; (try replace hF1 := hF1.below hb); (try replace hF2 := hF2.below hb); have hF2 := hJ.is; clear hJ; replace hc := hc.trans (hb.mono hc.size); clear hb)
            | (go_at_call 16; (with_reducible refine Calls.mono (HSmF.out _ _ _ hF1 hF2) ?_); rintro e wn ⟨rfl, hb⟩; (try clear hF1 hF2); replace hc := hc.trans (hb.mono hc.size); clear hb)
            | (go_at_call 28; (with_reducible refine Calls.mono (HSmA.out _ hc) ?_); rintro e wn ⟨rfl, hb⟩; replace hc := hc.trans (hb.mono hc.size); clear hb))
        all_goals
          try simp only [List.getElem_toArray, List.getElem_cons_succ, List.getElem_cons_zero, Act.put, List.setIfInBounds_toArray, List.set_cons_zero, List.set_cons_succ]
          go_wp2
          go_returns
          exact ⟨rfl, HW1.out.trans ((HWb.out.trans (hc.mono HWb.out.size)).mono HW1.out.size)⟩
end Go.Proofs.Ytcaolilhemamiaa
