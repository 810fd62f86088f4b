/- the document's has and Like on steps -/
import Derived.Test.YtacmdkbmakfdkaaG09
import Derived.Test.YtacmdkbmakfdkaaG06
namespace Go.Proofs.Ytacmdkbmakfdkaa
open Go.RowKit
set_option linter.unusedVariables false
set_option linter.unusedSimpArgs false
attribute [local go_sem ↓] loadHs
attribute [local simp] size_setRow
attribute [local go_sem] rowAt_head rowOf_alloc_at rowOf_alloc_past rowOf_drew rowOf_drewN rowOf_setRow_same rowOf_setRow_other rowOf_setCell_same rowOf_setCell_other size_setRow setRow_drew setRow_alloc_at setRow_alloc_past one_int one_bool cell_setRow_same cell_setRow_other frozen_setRow_same frozen_setRow_other
attribute [local go_sem ↓] run_imin

def hasH (l : List HV) (h : HV) : Bool := l.any fun x => leH x h && leH h x
theorem hasH_hit {xs : List HV} {h : HV} {k : Nat} (hk : k < xs.length) (e : (leH xs[k]! h && leH h xs[k]!) = true) : hasH xs h = true :=
  List.any_eq_true.2 ⟨xs[k]!, by rw [getElem!_pos xs k hk]; exact List.getElem_mem hk, e⟩
theorem hasH_miss {xs : List HV} {h : HV} {k : Nat} (hk : k < xs.length) (p : hasH (xs.take k) h = false) (e : (leH xs[k]! h && leH h xs[k]!) = false) : hasH (xs.take (k + 1)) h = false := by
  rw [take_getA xs k hk]
  unfold hasH at *
  rw [List.any_append, p]
  simpa using e
/-- the cells of a step in a row, whatever was made since -/
theorem hop_bx {w W : World} {b off : Nat} {xs : List HV} (hr : RHp.Row w b off xs) (hb : b < w.heap.size) (hB : Below w.heap.size w W) (j : Nat) (hj : j < xs.length) (i : Nat) {u : Value} (hu : (HV.enc xs[j]!)[i]? = some u) (p : Bx W) :
    p.w.cell? ⟨b, off + j * 11 + i, none⟩ = some u := bx_cell ((hr.below hB hb) j hj i u hu) p
theorem hop_bx0 {w W : World} {b off : Nat} {xs : List HV} (hr : RHp.Row w b off xs) (hb : b < w.heap.size) (hB : Below w.heap.size w W) (j : Nat) (hj : j < xs.length) {u : Value} (hu : (HV.enc xs[j]!)[0]? = some u) (p : Bx W) :
    p.w.cell? ⟨b, off + j * 11, none⟩ = some u := bx_cell ((hr.below hB hb) j hj 0 u hu) p
theorem hop_at {w W : World} {b off : Nat} {xs : List HV} (hr : RHp.Row w b off xs) (hb : b < w.heap.size) (hB : Below w.heap.size w W) (j : Nat) (hj : j < xs.length) (i : Nat) {u : Value} (hu : (HV.enc xs[j]!)[i]? = some u) :
    W.cell? ⟨b, off + j * 11 + i, none⟩ = some u := (hr.below hB hb) j hj i u hu
set_option maxRecDepth 100000 in
set_option maxHeartbeats 8000000 in
theorem rhas_row (xs : List HV) (h : HV) (b off cap : Nat) (w : World) (hl : xs.length ≤ 1000000000000) (hb : b < w.heap.size) (hr : RHp.Row w b off xs) :
    Calls Try.prog 21 #[.slice (some ⟨b, off, none⟩) xs.length cap, h.val] w (Ret (.bool (hasH xs h)) w) := by
  have HR := Lib.hid hr
  have HBx0 := Lib.hid ((Below.refl w.heap.size w).alloc (Nat.le_refl _) (.cells (hvRow h) 46))
  have HX0 : Hid (rowOf (w.alloc (.cells (hvRow h) 46)) w.heap.size = some (hvRow h)) := row_new rfl
  have HLE : Hid (∀ (x : HV) (W : World), Calls Try.prog 47 #[x.val, h.val] W (Ret (.bool (leH x h)) W)) := fun x W => docLe_is x h W
  have HGE : Hid (∀ (x : HV) (W : World), Calls Try.prog 47 #[h.val, x.val] W (Ret (.bool (leH h x)) W)) := fun x W => docLe_is h x W
  clear hr
  generalize hn : xs.length = n at hl
  have HN := Lib.hid hn
  clear hn
  generalize hcv : hasH xs h = cv
  have HCV := Lib.hid hcv
  clear hcv
  go_enter Try.func21, Try.ntmps21
  go_wp2
  go_loopg [5] n (fun gg i wr => ∃ k : Nat, k ≤ n ∧ n - k ≤ gg ∧ i = .int .i64 k ∧ Hid (Below w.heap.size w wr) ∧ Hid (hasH (xs.take k) h = false) ∧ Hid (rowOf wr w.heap.size = some (hvRow h)))
  case atStart => exact ⟨0, Nat.zero_le _, by omega, rfl, HBx0.out, rfl, HX0.out⟩
  case round =>
    clear HBx0 HX0
    obtain ⟨k, hkn, hg, rfl, HB, HC, HX⟩ := hrel
    by_cases hlt : k < n
    · have hlz : (k : Int) < (n : Int) := by omega
      have hk : k < xs.length := by rw [HN.out]; exact hlt
      have HH := Lib.hid (fun e => (HCV.out.symm.trans (hasH_hit (xs := xs) (h := h) (k := k) hk e)))
      have HM := Lib.hid (fun e => hasH_miss (xs := xs) (h := h) (k := k) hk HC.out e)
      have HC1 := Lib.hid (HLE.out xs[k]!)
      have HC2 := Lib.hid (HGE.out xs[k]!)
      have e0 := hop_bx0 HR.out hb HB.out k hk rfl
      have e1 := hop_bx HR.out hb HB.out k hk 1 rfl
      have e2 := hop_bx HR.out hb HB.out k hk 2 rfl
      have e3 := hop_bx HR.out hb HB.out k hk 3 rfl
      have e4 := hop_bx HR.out hb HB.out k hk 4 rfl
      have e5 := hop_bx HR.out hb HB.out k hk 5 rfl
      have e6 := hop_bx HR.out hb HB.out k hk 6 rfl
      have e7 := hop_bx HR.out hb HB.out k hk 7 rfl
      have e8 := hop_bx HR.out hb HB.out k hk 8 rfl
      have e9 := hop_bx HR.out hb HB.out k hk 9 rfl
      have e10 := hop_bx HR.out hb HB.out k hk 10 rfl
      have f0 := bx_cell (rowOf_cell HX.out 0 : _ = some (.int .i64 h.f))
      have f1 := bx_cell (rowOf_cell HX.out 1 : _ = some (.int .i64 h.k))
      have f2 := bx_cell (rowOf_cell HX.out 2 : _ = some (.int .i64 h.t))
      have f3 := bx_cell (rowOf_cell HX.out 3 : _ = some (.int .i64 h.a0))
      have f4 := bx_cell (rowOf_cell HX.out 4 : _ = some (.int .i64 h.a1))
      have f5 := bx_cell (rowOf_cell HX.out 5 : _ = some (.int .i64 h.a2))
      have f6 := bx_cell (rowOf_cell HX.out 6 : _ = some (.int .i64 h.a3))
      have f7 := bx_cell (rowOf_cell HX.out 7 : _ = some (.int .i64 h.b0))
      have f8 := bx_cell (rowOf_cell HX.out 8 : _ = some (.int .i64 h.b1))
      have f9 := bx_cell (rowOf_cell HX.out 9 : _ = some (.int .i64 h.b2))
      have f10 := bx_cell (rowOf_cell HX.out 10 : _ = some (.int .i64 h.b3))
      generalize xs[k]! = y at *
      clear hk HR HLE HGE HC HCV HN
      generalize leH y h = q1 at *
      generalize leH h y = q2 at *
      go_wp2_with fail
      refine wp_region_bx (by kernel_rfl) (by kernel_rfl) ?_
      cases q1
      all_goals
        repeat (first | go_big_quiet_step (first | (with_reducible exact Calls.bx (HC1.out _)) | (with_reducible exact Calls.bx (HC2.out _))) | quiet_step (first | (with_reducible exact Calls.bx (HC1.out _)) | (with_reducible exact Calls.bx (HC2.out _))))
        refine wpQuiet_nil ?_
        intro _ hw'
        obtain ⟨g9, hw''⟩ := hw'
        subst hw''
        have hb2 := g9.h
        generalize g9.w = w2 at hb2 ⊢
        clear g9
        have HB2 := Lib.hid (bstep HB.out hb2 HB.out.size)
        have HX2 := Lib.hid (rowOf_below HX.out hb2 (rowOf_lt HX.out))
        clear hb2 HB HX HC1 HC2
        clear e0 e1 e2 e3 e4 e5 e6 e7 e8 e9 e10 f0 f1 f2 f3 f4 f5 f6 f7 f8 f9 f10
      · have HM2 := Lib.hid (HM.out rfl)
        clear HM HH
        go_wp2
        go_roundg (n - (k + 1))
        case measure => omega
        case rel => exact ⟨k + 1, by omega, by omega, by go_num, HB2.out, HM2.out, HX2.out⟩
      · cases q2
        · have HM2 := Lib.hid (HM.out rfl)
          clear HM HH
          go_wp2
          go_roundg (n - (k + 1))
          case measure => omega
          case rel => exact ⟨k + 1, by omega, by omega, by go_num, HB2.out, HM2.out, HX2.out⟩
        · have hq := HH.out rfl
          subst hq
          clear HM HH
          go_wp2
          go_returns
          exact ⟨rfl, HB2.out⟩
    · have hlz : ¬ (k : Int) < (n : Int) := by omega
      obtain rfl : k = n := by omega
      have hq : cv = false := by
        rw [← HCV.out]
        have := HC.out
        rw [← HN.out, List.take_length] at this
        exact this
      subst hq
      clear HC HCV HLE HGE HR
      go_wp2
      go_returns
      exact ⟨rfl, HB.out⟩
set_option maxHeartbeats 2000000 in
theorem rhas_nil (h : HV) (p : Option Addr) (cap : Nat) (w : World) : Calls Try.prog 21 #[.slice p 0 cap, h.val] w (Ret (.bool (hasH [] h)) w) := by
  have e : hasH [] h = false := rfl
  rw [e]
  have HB := Lib.hid ((Below.refl w.heap.size w).alloc (Nat.le_refl _) (.cells (hvRow h) 46))
  go_enter Try.func21, Try.ntmps21
  go_wp2
  refine wp_loop_rounds 1 ?_
  rw [rounds_succ]
  go_wp2
  go_returns
  exact ⟨rfl, HB.out⟩
theorem rhas_any (xs : List HV) (h : HV) (v : Value) (w : World) (hl : xs.length ≤ 1000000000000) (hv : RHp.Is w v xs) : Calls Try.prog 21 #[v, h.val] w (Ret (.bool (hasH xs h)) w) := by
  rcases hv with ⟨rfl, p, cap, rfl, _⟩ | ⟨_, b, off, cap, rfl, hb, hr⟩
  · exact rhas_nil h p cap w
  · exact rhas_row xs h b off cap w hl hb hr
def likeH (a b : List HV) : Bool := decide (a.length = b.length) && (List.range a.length).all fun i => hasH b a[i]! && hasH a b[i]!
theorem likeH_iff (a b : List HV) : likeH a b = true ↔ a.length = b.length ∧ ∀ i, i < a.length → hasH b a[i]! = true ∧ hasH a b[i]! = true := by
  unfold likeH
  simp only [Bool.and_eq_true, decide_eq_true_eq, List.all_eq_true, List.mem_range]
attribute [local go_sem] HV.enc
set_option maxRecDepth 100000 in
set_option maxHeartbeats 8000000 in
theorem rlike_any (xs ys : List HV) (va vb : Value) (w : World) (hl : xs.length ≤ 1000000000000) (hm : ys.length ≤ 1000000000000) (ha : RHp.Is w va xs) (hb : RHp.Is w vb ys) :
    Calls Try.prog 10 #[va, vb] w (Ret (.bool (likeH xs ys)) w) := by
  obtain ⟨p, c, rfl, hop⟩ := RowKind.Is.opened ha
  obtain ⟨q, d, rfl, hoq⟩ := RowKind.Is.opened hb
  have HL := Lib.hid (likeH_iff xs ys)
  have HH1 : Hid (∀ (x : HV) (W : World), Below w.heap.size w W → Calls Try.prog 21 #[.slice p xs.length c, x.val] W (Ret (.bool (hasH xs x)) W)) := fun x W hW => rhas_any xs x _ W hl (ha.below hW)
  have HH2 : Hid (∀ (x : HV) (W : World), Below w.heap.size w W → Calls Try.prog 21 #[.slice q ys.length d, x.val] W (Ret (.bool (hasH ys x)) W)) := fun x W hW => rhas_any ys x _ W hm (hb.below hW)
  have HP := Lib.hid hop; have HQ := Lib.hid hoq
  clear ha hb hop hoq
  generalize likeH xs ys = res at *
  by_cases hne : xs.length = ys.length
  · generalize hn : ys.length = n at *
    have HN := Lib.hid hn
    have HNx := Lib.hid hne
    rw [hne] at HH1 ⊢
    clear hn hne hl
    go_enter Try.func10, Try.ntmps10
    go_wp2
    go_loopg [5] n (fun gg i wr => ∃ k : Nat, k ≤ n ∧ n - k ≤ gg ∧ i = .int .i64 k ∧ Hid (Below w.heap.size w wr) ∧ Hid (∀ i, i < k → hasH ys xs[i]! = true ∧ hasH xs ys[i]! = true))
    case atStart => exact ⟨0, Nat.zero_le _, by omega, rfl, Below.refl _ _, fun i hi => absurd hi (Nat.not_lt_zero i)⟩
    case round =>
      obtain ⟨k, hkn, hg, rfl, HB, HC⟩ := hrel
      by_cases hlt : k < n
      · have hlz : (k : Int) < (n : Int) := by omega
        have hkx : k < xs.length := by rw [HNx.out]; exact hlt
        have hky : k < ys.length := by rw [HN.out]; exact hlt
        obtain ⟨b, off, rfl, hb, hr⟩ := HP.out k hkx
        obtain ⟨b2, off2, rfl, hb2, hr2⟩ := HQ.out k hlt
        have HNo : Hid (¬ (hasH ys xs[k]! = true ∧ hasH xs ys[k]! = true) → res = false) := fun n => by
          cases hres : res
          · rfl
          · exact absurd ((HL.out.1 hres).2 k hkx) n
        have HYes : Hid (hasH ys xs[k]! = true ∧ hasH xs ys[k]! = true → ∀ i, i < k + 1 → hasH ys xs[i]! = true ∧ hasH xs ys[i]! = true) := fun n j hj => by
          by_cases e : j = k
          · rw [e]; exact n
          · exact HC.out j (by omega)
        have HC1 := Lib.hid (HH2.out xs[k]!)
        have HC2 := Lib.hid (HH1.out ys[k]!)
        have HE1 : Hid (∀ W, Below w.heap.size w W → elemL W ⟨b, off + k * 11, none⟩ 0 11 = some (HV.enc xs[k]!)) := fun W hW => hop_elem hr hb hW k hkx
        have HE2 : Hid (∀ W, Below w.heap.size w W → elemL W ⟨b2, off2 + k * 11, none⟩ 0 11 = some (HV.enc ys[k]!)) := fun W hW => hop_elem hr2 hb2 hW k hky
        clear hkx hky hr hr2 hb hb2 HP HQ HL HC HH1 HH2 HN HNx
        generalize hx : hasH ys xs[k]! = q1 at *
        generalize hy : hasH xs ys[k]! = q2 at *
        clear hx hy
        generalize xs[k]! = x at *
        generalize ys[k]! = y at *
        have E1 : elemL wr ⟨b, off + k * 11, none⟩ 0 11 = some (HV.enc x) := HE1.out _ HB.out
        go_wp2_with fail
        refine (HC1.out _ HB.out).mono ?_
        rintro e w2 ⟨rfl, hb2⟩
        have HB2 := Lib.hid (bstep HB.out hb2 HB.out.size)
        clear hb2 HB HC1 E1
        cases q1
        · have hq := HNo.out (fun e => by have := e.1; cases this)
          subst hq
          clear HNo HYes HC2 HE1 HE2
          go_wp2
          go_returns
          exact ⟨rfl, HB2.out⟩
        · have E2 : elemL w2 ⟨b2, off2 + k * 11, none⟩ 0 11 = some (HV.enc y) := HE2.out _ HB2.out
          go_wp2_with fail
          refine (HC2.out _ HB2.out).mono ?_
          rintro e w3 ⟨rfl, hb3⟩
          have HB3 := Lib.hid (bstep HB2.out hb3 HB2.out.size)
          clear hb3 HB2 HC2 E2 HE1 HE2
          cases q2
          · have hq := HNo.out (fun e => by have := e.2; cases this)
            subst hq
            clear HNo HYes
            go_wp2
            go_returns
            exact ⟨rfl, HB3.out⟩
          · have HM2 := Lib.hid (HYes.out (by simp))
            clear HNo HYes
            go_wp2
            go_roundg (n - (k + 1))
            case measure => omega
            case rel => exact ⟨k + 1, by omega, by omega, by go_num, HB3.out, HM2.out⟩
      · have hlz : ¬ (k : Int) < (n : Int) := by omega
        obtain rfl : k = n := by omega
        have hq : res = true := HL.out.2 ⟨HNx.out, fun i hi => HC.out i (by rw [HNx.out] at hi; exact hi)⟩
        subst hq
        clear HC HL HH1 HH2 HP HQ
        go_wp2
        go_returns
        exact ⟨rfl, HB.out⟩
  · have hq : res = false := by
      cases hres : res
      · rfl
      · exact absurd (HL.out.1 hres).1 hne
    subst hq
    have hz : (((xs.length : Nat) : Int) != ((ys.length : Nat) : Int)) = true := by simpa using (fun e => hne (by omega))
    clear HL HP HQ HH1 HH2 hne
    generalize xs.length = n at *
    generalize ys.length = m at *
    go_enter Try.func10, Try.ntmps10
    go_wp2
    go_returns
    exact ⟨rfl, Below.refl _ _⟩
end Go.Proofs.Ytacmdkbmakfdkaa
/- append to rows that may be very long (as long as a slice may be) -/
namespace Go.Proofs.Ytacmdkbmakfdkaa
open Go.RowKit
set_option linter.unusedVariables false
set_option linter.unusedSimpArgs false

namespace RowKind
theorem len_ok {b n : Nat} (hb : 0 < b) (h : n * b ≤ 140737488355328) : n ≤ maxLen := by
  have : n * 1 ≤ n * b := Nat.mul_le_mul_left n hb
  unfold maxLen
  omega
section
variable {α : Type} {R : RowKind α}
/-- append of a row -/
theorem Own.appendL {ops : Array Oper} {rest : List Oper} {o : Oper} {a : Act} {Q : Exit → Act → World → Prop} {w : World} (hb0 : 0 < R.bytes) (hgd : o.guard = none) (s x : Operand)
    (ho : o.op = .call { callee := .builtin .append, args := #[s, x], argTypes := #[R.tS, R.tS] }) {B : Nat} {v vx : Value} {xs : List α} (hown : R.Own B w v xs) (hs : a.eval s = v) (ys : List α)
    (hx : a.eval x = vx) (hz : R.App w vx ys) (hlen : (xs.length + ys.length) * R.bytes ≤ 140737488355328) (hbase : B ≤ w.heap.size)
    (h : ∀ v' w', R.Own B w' v' (xs ++ ys) → w.grownBy w' v.ownBlock → wpList Try.prog ops Q rest (a.put o.dst v') w') : wpList Try.prog ops Q (o :: rest) a w := by
  obtain ⟨i0, hi, hz0, hz1, hz2⟩ := info_parts R.info
  obtain ⟨ad, c, rfl, hc⟩ := hz
  refine wpList_append_own _ hgd s x R.tS ho B R.tE i0 R.zero R.k R.bytes R.under hi hz0 hz1 hz2 R.zlen R.k0 v xs.length (R.cells xs) hs hown ad ys.length c (R.cells ys) hx (R.cells_len ys) hc one_cells ?_ hlen hbase ?_
  · exact len_ok hb0 hlen
  · intro v' w' h1 h2 _
    refine h v' w' ?_ h2
    unfold Own
    rw [R.cells_append, List.length_append]
    exact h1
/-- the same inside a region -/
theorem Own.appendRL {ops : Array Oper} {o : Oper} {a : Act} {K : Act → World → Prop} {Q : Exit → Act → World → Prop} {E : Prop} {w : World} (hb0 : 0 < R.bytes) (hgd : o.guard = none) (s x : Operand)
    (ho : o.op = .call { callee := .builtin .append, args := #[s, x], argTypes := #[R.tS, R.tS] }) {B : Nat} {v vx : Value} {xs : List α} (hown : R.Own B w v xs) (hs : a.eval s = v) (ys : List α)
    (hx : a.eval x = vx) (hz : R.App w vx ys) (hlen : (xs.length + ys.length) * R.bytes ≤ 140737488355328) (hbase : B ≤ w.heap.size)
    (h : ∀ v' w', R.Own B w' v' (xs ++ ys) → w.grownBy w' v.ownBlock → K (a.put o.dst v') w') :
    if Region.wanted o (yielded ops a.tmps) = true then Oper.wp Try.prog o a w K Q else E := by
  have hw : Region.wanted o (yielded ops a.tmps) = true := by simp [Region.wanted, hgd]
  rw [if_pos hw]
  obtain ⟨i0, hi, hz0, hz1, hz2⟩ := info_parts R.info
  obtain ⟨ad, c, rfl, hc⟩ := hz
  refine wp_append_own _ s x R.tS ho B R.tE i0 R.zero R.k R.bytes R.under hi hz0 hz1 hz2 R.zlen R.k0 v xs.length (R.cells xs) hs hown ad ys.length c (R.cells ys) hx (R.cells_len ys) hc one_cells ?_ hlen hbase ?_
  · exact len_ok hb0 hlen
  · intro v' w' h1 h2 _
    refine h v' w' ?_ h2
    unfold Own
    rw [R.cells_append, List.length_append]
    exact h1
end
section
variable {α : Type} [Inhabited α] {R : RowKind α}
/-- append of one that was just made -/
theorem Own.pushL {ops : Array Oper} {rest : List Oper} {o : Oper} {a : Act} {Q : Exit → Act → World → Prop} {w0 w : World} {B : Nat} {v : Value} {xs : List α} {y : α} (hown : R.Own B w v xs) (hb : Below B w0 w) (hB : B ≤ w.heap.size)
    (hb0 : 0 < R.bytes) (hgd : o.guard = none) (s x : Operand) (ho : o.op = .call { callee := .builtin .append, args := #[s, x], argTypes := #[R.tS, R.tS] }) (hs : a.eval s = v) (t : TypeId)
    (hx : a.eval x = .slice (some ⟨w.heap.size, 0, none⟩) 1 1) (hlen : (xs.length + 1) * R.bytes ≤ 140737488355328) (h0 : B ≤ w0.heap.size)
    (h : ∀ v' w', R.Own B w' v' (xs ++ [y]) → Below B w0 w' → w.heap.size ≤ w'.heap.size → wpList Try.prog ops Q rest (a.put o.dst v') w') :
    wpList Try.prog ops Q (o :: rest) a (w.alloc (.cells (R.enc y).toArray t)) := by
  have hown' : R.Own B (w.alloc (.cells (R.enc y).toArray t)) v xs := hown.alloc _
  refine Own.appendL (R := R) hb0 hgd s x ho hown' hs [y] hx (Row.app (ys := [y]) (Row.new w y t)) (by rw [List.length_singleton]; exact hlen) (by simp; omega) ?_
  intro v' w' h1 h2
  have hlt := hown'.lt
  have hsz := h2.size
  refine h v' w' h1 ?_ (by simp at hsz; omega)
  exact (hb.alloc hB _).grown h2 (by simp; omega) (fun k hk => (hlt k hk).1)
theorem Own.pushRL {ops : Array Oper} {o : Oper} {a : Act} {K : Act → World → Prop} {Q : Exit → Act → World → Prop} {E : Prop} {w0 w : World} {B : Nat} {v : Value} {xs : List α} {y : α} (hown : R.Own B w v xs) (hb : Below B w0 w) (hB : B ≤ w.heap.size)
    (hb0 : 0 < R.bytes) (hgd : o.guard = none) (s x : Operand) (ho : o.op = .call { callee := .builtin .append, args := #[s, x], argTypes := #[R.tS, R.tS] }) (hs : a.eval s = v) (t : TypeId)
    (hx : a.eval x = .slice (some ⟨w.heap.size, 0, none⟩) 1 1) (hlen : (xs.length + 1) * R.bytes ≤ 140737488355328)
    (h : ∀ v' w', R.Own B w' v' (xs ++ [y]) → Below B w0 w' → w.heap.size ≤ w'.heap.size → K (a.put o.dst v') w') :
    if Region.wanted o (yielded ops a.tmps) = true then Oper.wp Try.prog o a (w.alloc (.cells (R.enc y).toArray t)) K Q else E := by
  have hown' : R.Own B (w.alloc (.cells (R.enc y).toArray t)) v xs := hown.alloc _
  refine Own.appendRL (R := R) hb0 hgd s x ho hown' hs [y] hx (Row.app (ys := [y]) (Row.new w y t)) (by rw [List.length_singleton]; exact hlen) (by simp; omega) ?_
  intro v' w' h1 h2
  have hlt := hown'.lt
  have hsz := h2.size
  refine h v' w' h1 ?_ (by simp at hsz; omega)
  exact (hb.alloc hB _).grown h2 (by simp; omega) (fun k hk => (hlt k hk).1)
/-- append of a slice, wherever it lies, nil too -/
theorem Own.appendAnyL {ops : Array Oper} {rest : List Oper} {o : Oper} {a : Act} {Q : Exit → Act → World → Prop} {w0 w : World} {B : Nat} {v vx : Value} {xs ys : List α} (hown : R.Own B w v xs) (hb : Below B w0 w) (hB : B ≤ w.heap.size)
    (hb0 : 0 < R.bytes) (hgd : o.guard = none) (s x : Operand) (ho : o.op = .call { callee := .builtin .append, args := #[s, x], argTypes := #[R.tS, R.tS] }) (hs : a.eval s = v)
    (hx : a.eval x = vx) (his : R.Is w vx ys) (hlen : (xs.length + ys.length) * R.bytes ≤ 140737488355328)
    (h : ∀ v' w', R.Own B w' v' (xs ++ ys) → Below B w0 w' → w.heap.size ≤ w'.heap.size → wpList Try.prog ops Q rest (a.put o.dst v') w') :
    wpList Try.prog ops Q (o :: rest) a w := by
  have hlt := hown.lt
  have fin : ∀ v' w', R.Own B w' v' (xs ++ ys) → w.grownBy w' v.ownBlock → wpList Try.prog ops Q rest (a.put o.dst v') w' := fun v' w' h1 h2 =>
    h v' w' h1 (hb.grown h2 hB (fun k hk => (hlt k hk).1)) h2.size
  rcases his with ⟨rfl, p, cap, rfl, hp⟩ | ⟨_, b, off, cap, rfl, _, hr⟩
  · cases p with
    | none =>
      obtain rfl := hp rfl
      obtain ⟨i0, hi, _⟩ := info_parts R.info
      refine wpList_append_own_none hgd s x R.tS ho B R.tE i0 R.k R.under hi v _ _ hs hown hx ?_
      exact h v w (by rw [List.append_nil]; exact hown) hb (Nat.le_refl _)
    | some ad =>
      refine Own.appendL (R := R) hb0 hgd s x ho hown hs [] hx ⟨ad, cap, rfl, fun j u hu => by simp [cells] at hu⟩ hlen hB fin
  · exact Own.appendL hb0 hgd s x ho hown hs ys hx hr.app hlen hB fin
end
end RowKind
end Go.Proofs.Ytacmdkbmakfdkaa
