/- the items of each key of two bags, as an iterator: keys' closure -/
import Derived.Test.YtgmpgemgoplafaaG20
import Derived.Test.YtgmpgemgoplafaaG24
import Derived.Test.YtgmpgemgoplafaaG22
import Derived.Shelf.Bits.Mul64
import Derived.Laws.Externs
namespace Go.Proofs.Ytgmpgemgoplafaa
open Go.RowKit Go.Shelf
attribute [local go_sem] Oper.semAt_some
set_option linter.unusedVariables false
set_option linter.unusedSimpArgs false

/-- a key's items in two bags, and the slices that hold them -/
abbrev KeyV := (List IV × List IV) × Value × Value
def encK (x : KeyV) : Array Value := #[x.2.1, x.2.2]
/-- they hold them, whatever rounds follow -/
def OkK (Br Bl : Nat) (x : KeyV) (W : World) : Prop := Bl < W.heap.size ∧ (capOk x.2.1 ∧ capOk x.2.2) ∧ ∀ W', KpL Br Bl W W' → RI.Is W' x.2.1 x.1.1 ∧ RI.Is W' x.2.2 x.1.2
theorem KpL.of_grown {Br Bl : Nat} {A B : World} {row : Option Nat} (h : A.grownBy B row) (hr : ∀ r, row = some r → r ≠ Bl ∧ ∃ o : Obj, A.heap[r]? = some o ∧ o.isCells = false) (hl : Bl < A.heap.size) : KpL Br Bl A B := by
  have hp : rowPtr B Bl = rowPtr A Bl := rowPtr_eq (h.block Bl hl fun e => (hr Bl e.symm).1 rfl)
  refine ⟨h.os, h.tape, h.output, h.size, fun j o hj hc _ _ _ => (h.block j (Array.getElem?_eq_some_iff.1 hj).1 fun e => ?_).trans hj, .inl hp, fun q g e => ?_⟩
  · obtain ⟨_, o', ho, hn⟩ := hr j e.symm
    rw [hj] at ho
    cases ho
    rw [hc] at hn
    cases hn
  · rw [hp] at e
    exact Nat.lt_of_lt_of_le (q g e) h.size
theorem okK_own {Br Bl B : Nat} (hB : Bl < B) (x : KeyV) : OwnFrom B (fun (_ : Unit) W => OkK Br Bl x W) := fun _ A C row hs hg hr =>
  ⟨Nat.lt_of_lt_of_le hs.1 hg.size, hs.2.1, fun W' hk => hs.2.2 W' ((KpL.of_grown hg (fun r e => ⟨fun e2 => by have := (hr r e).1; omega, (hr r e).2⟩) hs.1).trans hk)⟩
def sliceLen : Value → Nat
  | .slice _ n _ => n
  | _ => 0
theorem keysO_nil (f : Nat) (b : List IV) : keysO f [] b = [] := by cases f <;> rfl

set_option maxRecDepth 100000 in
set_option maxHeartbeats 8000000 in
theorem keys_iter {Kp : World → World → Prop} (Br Bl Ba Bb : Nat) (hKp : ∀ A B, Kp A B → KpL Br Bl A B) (a b : List IV) (va vb : Value) (w : World) (hlB : Bl < w.heap.size) (hrB : Br < w.heap.size) (hptr : ∀ g, rowPtr w Bl = some g → g < w.heap.size)
    (hl : a.length ≤ 900000) (hlb : b.length ≤ 900000) (hca : capOk va) (hcb : capOk vb)
    (hw : ∀ W, KpL Br Bl w W → (W.cell? ⟨Ba, 0, none⟩ = some va ∧ W.cell? ⟨Bb, 0, none⟩ = some vb) ∧ RI.Is W va a ∧ RI.Is W vb b) :
    IterV Try.prog 64 #[.pointer (some ⟨Ba, 0, none⟩), .pointer (some ⟨Bb, 0, none⟩)] encK (fun x => x.1) (OkK Br Bl) Kp (keysO a.length a b) w := fun l J Jx W hW hJ hJx hY hj => by
  have HK0 := Lib.hid ((KpL.of_below (Br := Br) hW hlB).trans (KpL.of_below (Br := Br) (Bl := Bl) ((Below.refl _ W).drew) (Nat.lt_of_lt_of_le hlB hW.size)))
  have hc0 := (hw _ (KpL.of_below hW hlB)).1
  have HP0 : Hid (∀ g, rowPtr W.drew Bl = some g → g < W.drew.heap.size) := HK0.out.lt hptr
  have HJ0 : Hid (J [] W.drew) := hJ _ W _ none hj (grown_of_below ((Below.refl _ W).drew)) (fun r e => by cases e)
  have HA : Hid (∀ W, KpL Br Bl w W → RI.Is W va a) := fun W h => (hw W h).2.1
  have HB : Hid (∀ W, KpL Br Bl w W → RI.Is W vb b) := fun W h => (hw W h).2.2
  obtain ⟨pa, ca, rfl⟩ := (HA.out _ HK0.out).slice
  obtain ⟨pb, cb, rfl⟩ := (HB.out _ HK0.out).slice
  have HC : Hid (capOk (.slice pa a.length ca) ∧ capOk (.slice pb b.length cb)) := ⟨hca, hcb⟩
  have HL : Hid (a.length ≤ 900000 ∧ b.length ≤ 900000) := ⟨hl, hlb⟩
  obtain ⟨hc1, hc2⟩ := hc0
  clear hw hl hlb hca hcb hj
  refine (callsIn_wide (n := 3)).1 ?_
  refine callsIn_of_wp Try.func64 rfl trivial ?_ rfl
  simp only [Try.ntmps64, List.size_toArray, List.length_cons, List.length_nil, Nat.reduceAdd, Nat.reduceSub, Array.replicate_succ, Array.replicate_zero, List.push_toArray, List.append_toArray, List.nil_append, List.cons_append]
  gi_wp2
  gi_region
  all_goals gi_wp2
  gi_loopw [4, 5, 6, 7] (fun v4 v5 v6 v7 wr => ∃ (pre : List (List IV × List IV)) (xa xb : List IV) (fu : Nat), Hid (keysO a.length a b = pre ++ keysO fu xa xb) ∧ Hid (xa.length ≤ fu ∧ xa.length ≤ 900000 ∧ xb.length ≤ 900000) ∧ Hid (∀ W, KpL Br Bl w W → RI.Is W v6 xa) ∧ Hid (∀ W, KpL Br Bl w W → RI.Is W v7 xb) ∧ Hid (capOk v6 ∧ capOk v7) ∧ J pre wr ∧ Hid (KpL Br Bl w wr) ∧ Hid (∀ g, rowPtr wr Bl = some g → g < wr.heap.size))
    (fun _ _ v6 _ _ => sliceLen v6)
  case atStart => exact ⟨[], a, b, a.length, rfl, ⟨Nat.le_refl _, HL.out⟩, HA.out, HB.out, HC.out, HJ0.out, HK0.out, HP0.out⟩
  case round =>
    obtain ⟨pre, xa, xb, fu, HE, HF, H6, H7, H8, hJs, HK, HP⟩ := hrel
    clear HA HB HC HL HK0 HP0 HJ0 hc1 hc2
    obtain ⟨p6, c6, rfl⟩ := (H6.out _ HK.out).slice
    obtain ⟨p7, c7, rfl⟩ := (H7.out _ HK.out).slice
    cases xa with
    | nil =>
      have hfin : Hid (keysO a.length a b = pre) := by have h := HE.out; rw [keysO_nil, List.append_nil] at h; exact h
      clear HE HF H6 H7 H8
      gi_wp2
      go_end0
      exact ⟨⟨_, rfl⟩, .inl (by rw [hfin.out]; exact hJs)⟩
    | cons c xa =>
      have hlen : (0 : Int) < ((c :: xa).length : Int) := by (try simp) <;> (try omega)
      have HR0 := is_row' (H6.out _ HK.out) (by simp)
      obtain ⟨g, o, rfl, hgs, hrow⟩ := HR0
      have hcell := (atI hrow 0 (by simp)).1
      simp only [Nat.zero_mul, Nat.add_zero, List.getElem!_cons_zero] at hcell

      have HT1 : Hid (Calls Try.prog 65 #[.slice (some ⟨g, o, none⟩) (c :: xa).length c6, .int .i64 c.t.k] wr (TakeR (.slice (some ⟨g, o, none⟩) (c :: xa).length c6) (c :: xa) c.t.k wr)) := take_any _ _ _ wr HF.out.2.1 H8.out.1 (H6.out _ HK.out)
      have HT2 : Hid (∀ W, KpL Br Bl w W → Calls Try.prog 65 #[.slice p7 xb.length c7, .int .i64 c.t.k] W (TakeR (.slice p7 xb.length c7) xb c.t.k W)) := fun W h => take_any _ _ _ W HF.out.2.2 H8.out.2 (H7.out _ h)
      have HE2 : Hid (∃ f2, keysO a.length a b = (pre ++ [(takeO (c :: xa) c.t.k, takeO xb c.t.k)]) ++ keysO f2 (restO (c :: xa) c.t.k) (restO xb c.t.k) ∧ (restO (c :: xa) c.t.k).length ≤ f2) := by
        have h := HF.out.1
        cases fu with
        | zero => simp at h
        | succ f => exact ⟨f, by rw [HE.out]; simp [keysO], by have := restO_head c xa; simp at h; omega⟩
      have HLN : Hid ((restO (c :: xa) c.t.k).length < (c :: xa).length ∧ (restO (c :: xa) c.t.k).length ≤ 900000 ∧ (restO xb c.t.k).length ≤ 900000) := by
        have h1 := restO_head c xa
        have h2 := HF.out.2
        have h3 : (restO xb c.t.k).length ≤ xb.length := by unfold restO dropO; exact Nat.le_trans (dropWhile_len _ _) (dropWhile_len _ _)
        rw [List.length_cons] at h2 ⊢
        exact ⟨by omega, by omega, by omega⟩
      generalize c.t.k = kk at *
      generalize hm1 : takeO (c :: xa) kk = m1 at *
      generalize hr1 : restO (c :: xa) kk = r1 at *
      generalize hm2 : takeO xb kk = m2 at *
      generalize hr2 : restO xb kk = r2 at *
      have HG : Hid (takeO (c :: xa) kk = m1 ∧ restO (c :: xa) kk = r1 ∧ takeO xb kk = m2 ∧ restO xb kk = r2) := ⟨hm1, hr1, hm2, hr2⟩
      clear hm1 hr1 hm2 hr2 hrow HE HF
      generalize hN : (c :: xa).length = N at *
      have HN := Lib.hid hN
      clear hN
      gi_wp2_with (refine ⟨trivial, ?_⟩; gi_at_call 65; refine (callsIn_wide.2 HT1.out).mono ?_; clear HT1; rintro e W1 ⟨u1, v1, rfl, hu1, hv1, hcu1, hcv1, hb1⟩)
      have HK1 := Lib.hid (HK.out.trans (KpL.of_below hb1 (Nat.lt_of_lt_of_le hlB HK.out.size)))
      refine ⟨trivial, ?_⟩
      gi_at_call 65
      refine (callsIn_wide.2 (HT2.out _ HK1.out)).mono ?_
      clear HT2
      rintro e W2 ⟨u2, v2, rfl, hu2, hv2, hcu2, hcv2, hb2⟩
      have HK2 := Lib.hid (HK1.out.trans (KpL.of_below hb2 (Nat.lt_of_lt_of_le hlB HK1.out.size)))
      have HJ2 := Lib.hid (hJ _ _ _ none (hJ _ _ _ none hJs (grown_of_below hb1) (fun r e => by cases e)) (grown_of_below hb2) (fun r e => by cases e))
      have HP2 := Lib.hid ((KpL.of_below (Br := Br) hb2 (Nat.lt_of_lt_of_le hlB HK1.out.size)).lt ((KpL.of_below (Br := Br) hb1 (Nat.lt_of_lt_of_le hlB HK.out.size)).lt HP.out))
      have HU1 : Hid (∀ W, KpL Br Bl w W → RI.Is W u1 m1) := fun W h => by have q := hu1 W (H6.out W h); rw [HG.out.1] at q; exact q
      have HV1 : Hid (∀ W, KpL Br Bl w W → RI.Is W v1 r1) := fun W h => by have q := hv1 W (H6.out W h); rw [HG.out.2.1] at q; exact q
      have HU2 : Hid (∀ W, KpL Br Bl w W → RI.Is W u2 m2) := fun W h => by have q := hu2 W (H7.out W h); rw [HG.out.2.2.1] at q; exact q
      have HV2 : Hid (∀ W, KpL Br Bl w W → RI.Is W v2 r2) := fun W h => by have q := hv2 W (H7.out W h); rw [HG.out.2.2.2] at q; exact q
      have HCU : Hid ((capOk u1 ∧ capOk u2) ∧ capOk v1 ∧ capOk v2) := ⟨⟨hcu1, hcu2⟩, hcv1, hcv2⟩
      have HPX : Hid (pre ++ [(m1, m2)] <+: keysO a.length a b) := by obtain ⟨f2, h, _⟩ := HE2.out; exact ⟨_, h.symm⟩
      have HOK : Hid (OkK Br Bl ((m1, m2), u1, u2) W2) := ⟨Nat.lt_of_lt_of_le hlB HK2.out.size, HCU.out.1, fun W' h => ⟨HU1.out W' (HK2.out.trans h), HU2.out W' (HK2.out.trans h)⟩⟩
      clear hu1 hv1 hu2 hv2 hcu1 hcv1 hcu2 hcv2 hb1 hb2 HK1 H6 H7 H8 HK HP hJs HG
      obtain ⟨fn, tmps, assign, body, hy, hR⟩ := (yield_any (hY pre ((m1, m2), u1, u2) W2 HPX.out HOK.out HJ2.out)).1 2
      dsimp only [encK] at hy
      gi_wp2
      refine hR.mono ?_
      rintro e W5 (⟨rfl, hJ5, hk5⟩ | ⟨rfl, hJx5⟩)
      · replace hk5 := hKp _ _ hk5.1
        have HK5 := Lib.hid (HK2.out.trans hk5)
        have HP5 := Lib.hid (hk5.lt HP2.out)
        have HS : Hid (sliceLen v1 = r1.length) := by obtain ⟨p, c, e⟩ := (HV1.out _ HK5.out).slice; rw [e]; rfl
        clear hk5 hR hy
        gi_wp2
        go_roundw
        case rel =>
          obtain ⟨f2, h1, h2⟩ := HE2.out
          exact ⟨_, r1, r2, f2, h1, ⟨h2, HLN.out.2⟩, HV1.out, HV2.out, HCU.out.2, hJ5, HK5.out, HP5.out⟩
        case measure =>
          have h1 := HS.out
          have h2 := HLN.out.1
          show sliceLen v1 < sliceLen (.slice _ N c6)
          rw [h1]
          exact h2
      · gi_wp2
        refine bodyPost_ret (results_none rfl _ _ _) rfl ?_
        exact ⟨⟨_, rfl⟩, .inr ⟨_, HPX.out, hJx5.1⟩⟩

end Go.Proofs.Ytgmpgemgoplafaa
/- bits.Mul64, bits.Add64, and the program's whole (128 bits) -/
namespace Go.Proofs.Ytgmpgemgoplafaa
open Go.RowKit Go.Shelf
set_option linter.unusedVariables false
set_option linter.unusedSimpArgs false

def mulL_ren : Go.Shelf.Ren := ⟨fun | 264 => 97 | n => n, fun | 46 => 56 | 53 => 78 | n => n, fun | n => n⟩
theorem mulL : Go.Proofs.Lays.n264 Try.prog mulL_ren where
  mixed := by kernel_rfl
  f264 := Try.func97.trans (congrArg some (by kernel_rfl))
  t46 := Try.underlying56
  a46 := Try.isAgg56
  z46 := Try.sizeOf56
  v46 := Try.zeroValue56
  t53 := Try.underlying78
  a53 := Try.isAgg78
  z53 := Try.sizeOf78
  v53 := Try.zeroValue78
theorem mul64_any (x y : Nat) (hx : x < 18446744073709551616) (hy : y < 18446744073709551616) (w : World) :
    Calls Try.prog 97 #[.int .u64 x, .int .u64 y] w (fun e w' => e = .returned (.tuple #[.int .u64 ((x * y / 18446744073709551616 : Nat) : Int), .int .u64 ((x * y % 18446744073709551616 : Nat) : Int)]) ∧ w' = w) :=
  Any.bits_Mul64 mulL x y hx hy w
theorem add64_any (x y c : Int) (hx : 0 ≤ x) (hy : 0 ≤ y) (hc0 : 0 ≤ c) (hc : c ≤ 1) (w : World) : (callFunc 98 #[.int .u64 x, .int .u64 y, .int .u64 c]).run Try.prog w =
    .ok (.value (.tuple #[.int .u64 ((x + y + c) % 18446744073709551616), .int .u64 ((x + y + c) / 18446744073709551616)])) w := by
  rw [run_callFunc_extern Try.func98 (by kernel_rfl) (by kernel_rfl) (by kernel_rfl) (e := add64Entry) (by kernel_rfl), run_add64 x y c hx hy hc0 hc]
  rfl
theorem add64_0 (x y : Int) (hx : 0 ≤ x) (hy : 0 ≤ y) (w : World) : (callFunc 98 #[.int .u64 x, .int .u64 y, .int .u64 0]).run Try.prog w =
    .ok (.value (.tuple #[.int .u64 ((x + y) % 18446744073709551616), .int .u64 ((x + y) / 18446744073709551616)])) w := by
  simpa using add64_any x y 0 hx hy (Int.le_refl 0) (by decide) w
end Go.Proofs.Ytgmpgemgoplafaa
/- the program's whole: a number of 128 bits -/
namespace Go.Proofs.Ytgmpgemgoplafaa
open Go.RowKit Go.Shelf
set_option linter.unusedVariables false
set_option linter.unusedSimpArgs false

/-- a number of 128 bits in a box, its high half ahead -/
def W128 (hi lo : Int) : Prop := 0 ≤ hi ∧ hi < 18446744073709551616 ∧ 0 ≤ lo ∧ lo < 18446744073709551616
/-- another one, which is as much more, but for what has no room -/
def More (hi lo d hi' lo' : Int) : Prop := W128 hi' lo' ∧ ∃ q : Int, hi' * 18446744073709551616 + lo' = hi * 18446744073709551616 + lo + d + q * 340282366920938463463374607431768211456
theorem more_pos {hi lo : Int} (P : Int) (hw : W128 hi lo) (hP : 0 ≤ P) : More hi lo P ((hi + P / 18446744073709551616 + (lo + P % 18446744073709551616) / 18446744073709551616) % 18446744073709551616) ((lo + P % 18446744073709551616) % 18446744073709551616) := by
  obtain ⟨h1, h2, h3, h4⟩ := hw
  refine ⟨⟨by omega, by omega, by omega, by omega⟩, -((hi + P / 18446744073709551616 + (lo + P % 18446744073709551616) / 18446744073709551616) / 18446744073709551616), ?_⟩
  omega
theorem more_neg {hi lo : Int} (P m : Int) (hw : W128 hi lo) (hP : 0 ≤ P) : More hi lo (P - 18446744073709551616 * m) ((hi + (P / 18446744073709551616 - m) % 18446744073709551616 + (lo + P % 18446744073709551616) / 18446744073709551616) % 18446744073709551616) ((lo + P % 18446744073709551616) % 18446744073709551616) := by
  obtain ⟨h1, h2, h3, h4⟩ := hw
  refine ⟨⟨by omega, by omega, by omega, by omega⟩, -((hi + (P / 18446744073709551616 - m) % 18446744073709551616 + (lo + P % 18446744073709551616) / 18446744073709551616) / 18446744073709551616) - (P / 18446744073709551616 - m) / 18446744073709551616, ?_⟩
  omega
theorem w_value {hi lo S q : Int} (hw : W128 hi lo) (hS : -85070591730234615865843651857942052864 ≤ S ∧ S ≤ 85070591730234615865843651857942052864) (hq : hi * 18446744073709551616 + lo = S + q * 340282366920938463463374607431768211456) :
    (hi = IntKind.u64.wrap (wrap64 lo / 9223372036854775808) ↔ inR S) ∧ (inR S → wrap64 lo = S) := by
  obtain ⟨h1, h2, h3, h4⟩ := hw
  rw [IntKind.wrap_u64]
  by_cases h : lo < 9223372036854775808
  · have e : wrap64 lo = lo := by unfold wrap64; omega
    rw [e, show lo / 9223372036854775808 = 0 by omega]
    unfold inR
    omega
  · have e : wrap64 lo = lo - 18446744073709551616 := by unfold wrap64; omega
    rw [e, show (lo - 18446744073709551616) / 9223372036854775808 = -1 by omega]
    unfold inR
    omega
set_option maxRecDepth 100000 in
set_option maxHeartbeats 4000000 in
theorem wadd_any (e : Nat) (hi lo v n : Int) (w : World) (hw : W128 hi lo) (hv : inR v) (hn : 0 ≤ n ∧ n ≤ 2147483648)
    (c0 : w.cell? ⟨e, 0, none⟩ = some (.int .u64 hi)) (c1 : w.cell? ⟨e, 1, none⟩ = some (.int .u64 lo)) (f0 : w.frozen? ⟨e, 0, none⟩ = false) (f1 : w.frozen? ⟨e, 1, none⟩ = false) :
    Calls Try.prog 89 #[.pointer (some ⟨e, 0, none⟩), .int .i64 v, .int .i64 n] w (fun r w' => (∃ tv, r = .returned tv) ∧ ∃ hi' lo', w' = (w.setCell ⟨e, 1, none⟩ (.int .u64 lo')).setCell ⟨e, 0, none⟩ (.int .u64 hi') ∧ More hi lo (v * n) hi' lo') := by
  obtain ⟨m, rfl⟩ := Int.eq_ofNat_of_zero_le hn.1
  have hx0 : ∃ x : Nat, x < 18446744073709551616 ∧ IntKind.u64.wrap v = (x : Int) ∧ ((0 ≤ v ∧ v = x) ∨ (v < 0 ∧ v = x - 18446744073709551616)) := by
    refine ⟨(v % 18446744073709551616).toNat, by omega, by rw [IntKind.wrap_u64]; omega, ?_⟩
    unfold inR at hv
    omega
  obtain ⟨x, hx, hxw, hxv⟩ := hx0
  have HM := Lib.hid (fun W => mul64_any x m hx (by omega) W)
  have hP : (0 : Int) ≤ ((x * m : Nat) : Int) := Int.natCast_nonneg _
  have hmh : ((x * m / 18446744073709551616 : Nat) : Int) = ((x * m : Nat) : Int) / 18446744073709551616 := by omega
  have hml : ((x * m % 18446744073709551616 : Nat) : Int) = ((x * m : Nat) : Int) % 18446744073709551616 := by omega
  have h1 := more_pos _ hw hP
  have h2 := more_neg _ (m : Int) hw hP
  have e1 : v = x → v * (m : Int) = ((x * m : Nat) : Int) := fun h => by rw [h, Int.natCast_mul]
  have e2 : v = x - 18446744073709551616 → v * (m : Int) = ((x * m : Nat) : Int) - 18446744073709551616 * (m : Int) := fun h => by rw [h, Int.sub_mul, Int.natCast_mul]
  have hlo := hw.2.2.1
  have hhi := hw.1
  have hlo2 := hw.2.2.2
  rw [hmh, hml] at HM
  generalize ((x * m : Nat) : Int) = P at *
  have y1 : 0 ≤ P % 18446744073709551616 := by omega
  have y0 : 0 ≤ P / 18446744073709551616 := by omega
  have k0 : 0 ≤ (lo + P % 18446744073709551616) / 18446744073709551616 := by omega
  have k1 : (lo + P % 18446744073709551616) / 18446744073709551616 ≤ 1 := by omega
  clear hmh hml hP hw hx hv
  generalize P % 18446744073709551616 = ml at *
  generalize P / 18446744073709551616 = mh at *
  rcases hxv with ⟨hs, hxv⟩ | ⟨hs, hxv⟩
  · have e3 := e1 hxv
    have H1 := Lib.hid h1
    have hs' : decide (v < 0) = false := decide_eq_false (by omega)
    clear e1 e2 h2 hs hxv h1
    generalize v * (m : Int) = vm at *
    subst e3
    go_enter Try.func89, Try.ntmps89
    go_wp2_with fail
    refine (HM.out _).mono ?_
    rintro r w1 ⟨rfl, rfl⟩
    clear HM hxw
    go_wp2_with (first | simp only [add64_0 lo ml hlo y1] | simp only [add64_any hi mh _ hhi y0 k0 k1])
    go_end0
    exact ⟨⟨_, rfl⟩, _, _, rfl, H1.out⟩
  · have e3 := e2 hxv
    have H1 := Lib.hid h2
    have hs' : decide (v < 0) = true := decide_eq_true hs
    have hwn : IntKind.u64.wrap (mh - (m : Int)) = (mh - (m : Int)) % 18446744073709551616 := IntKind.wrap_u64 _
    have y2 : 0 ≤ (mh - (m : Int)) % 18446744073709551616 := by omega
    clear e1 e2 h1 hs hxv h2
    generalize v * (m : Int) = vm at *
    subst e3
    go_enter Try.func89, Try.ntmps89
    go_wp2_with fail
    refine (HM.out _).mono ?_
    rintro r w1 ⟨rfl, rfl⟩
    clear HM hxw
    go_wp2_with (first | simp only [add64_0 lo ml hlo y1] | simp only [hwn, add64_any hi _ _ hhi y2 k0 k1])
    go_end0
    exact ⟨⟨_, rfl⟩, _, _, rfl, H1.out⟩
set_option maxRecDepth 100000 in
set_option maxHeartbeats 4000000 in
theorem wvalue_any (hi lo : Int) (w : World) : 
    Calls Try.prog 90 #[.agg #[.int .u64 hi, .int .u64 lo]] w (fun r w' => r = .returned (.tuple #[.int .i64 (wrap64 lo), .bool (hi == IntKind.u64.wrap (wrap64 lo / 9223372036854775808))]) ∧ Below w.heap.size w w') := by
  have HB : Hid (Below w.heap.size w (w.alloc (.cells #[.int .u64 hi, .int .u64 lo] 124)).drew) := ((Below.refl _ _).alloc (Nat.le_refl _) _).drew
  go_enter Try.func90, Try.ntmps90
  go_wp2
  go_region
  all_goals go_wp2
  all_goals go_returns
  all_goals exact ⟨rfl, HB.out⟩
end Go.Proofs.Ytgmpgemgoplafaa
