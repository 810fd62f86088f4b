/- the library's DeleteFunc over a row of steps of the call's own, with put's closure -/
import Derived.Test.YtjaahmgokiobjaaGreatG32
import Derived.Test.YtjaahmgokiobjaaGreatG31
import Derived.Test.YtjaahmgokiobjaaGreatG27
namespace Go.Proofs.YtjaahmgokiobjaaGreat
open Go.RowKit
set_option linter.unusedVariables false
set_option linter.unusedSimpArgs false
attribute [local go_sem ↓] loadHs storeH
attribute [local simp] size_setRow
attribute [local go_sem] rowAt_head rowOf_alloc_at rowOf_alloc_past rowOf_drew rowOf_drewN rowOf_setRow_same rowOf_setRow_other rowOf_setCell_same rowOf_setCell_other size_setRow setRow_drew setRow_alloc_at setRow_alloc_past one_int one_bool cell_setRow_same cell_setRow_other frozen_setRow_same frozen_setRow_other
attribute [local go_sem ↓] run_imin
attribute [local go_sem] HV.enc

theorem grown_trans {w w' w'' : World} {r : Option Nat} (h : w.grownBy w' r) (k : w'.grownBy w'' r) : w.grownBy w'' r :=
  ⟨k.os.trans h.os, k.tape.trans h.tape, k.output.trans h.output, Nat.le_trans h.size k.size, fun i hi hne => (k.block i (Nat.lt_of_lt_of_le hi h.size) hne).trans (h.block i hi hne)⟩
theorem grown_below {w w' : World} (h : Below w.heap.size w w') (r : Option Nat) : w.grownBy w' r := ⟨h.os, h.tape, h.output, h.size, fun i hi _ => h.block i hi⟩
theorem grown_row {w w' : World} {r : Option Nat} {b : Nat} {c : Array Value} (h : w.grownBy w' r) (hb : rowOf w b = some c) (hne : some b ≠ r) : rowOf w' b = some c :=
  (rowOf_block (h.block b (rowOf_lt hb) hne)).trans hb
theorem own_elem {B : Nat} {w W : World} {g n cap : Nat} {ys : List HV} (h : RHp.Own B w (.slice (some ⟨g, 0, none⟩) n cap) ys) (hW : Below w.heap.size w W) (j : Nat) (hj : j < ys.length) : elemL W ⟨g, j * 11, none⟩ 0 11 = some (HV.enc ys[j]!) := by
  rcases h.is with ⟨rfl, _⟩ | ⟨_, b, off, cap', e, hb, hr⟩
  · simp at hj
  · simp only [Value.slice.injEq, Option.some.injEq, Addr.mk.injEq, and_true] at e
    obtain ⟨⟨rfl, rfl⟩, _⟩ := e
    have := hop_elem hr hb hW j hj
    rwa [Nat.zero_add] at this
theorem zhop_one : ∀ u ∈ RHp.zero.cells.toList, u.oneCell' = true := by
  intro u hu
  have : RHp.zero.cells.toList = List.replicate 11 (.int .i64 0) := rfl
  rw [this] at hu
  rw [List.eq_of_mem_replicate hu]
  rfl
theorem row_elem {w : World} {b : Nat} {y : HV} (h : rowOf w b = some (hvRow y)) : elemL w ⟨b, 0, none⟩ 0 11 = some (HV.enc y) :=
  elemL_of (l := HV.enc y) (i := 0) (fun j v hj => by
    rw [Addr.add_lit, Nat.zero_add, Nat.zero_add, rowOf_cell h]
    simpa [HV.enc] using hj)
/-- the state of the loop: so many are kept, so many looked at -/
structure DelI (f : HV → Bool) (xs : List HV) (B : Nat) (w W : World) (g cap Bh : Nat) (h : HV) (i j : Nat) (ys : List HV) : Prop where
  ij : i < j
  jn : j ≤ xs.length
  len : ys.length = xs.length
  own : RHp.Own B W (.slice (some ⟨g, 0, none⟩) xs.length cap) ys
  kept : ys.take i = (xs.take j).filter fun x => !f x
  rest : ys.drop j = xs.drop j
  gr : w.grownBy W (some g)
  box : rowOf W Bh = some (hvRow h)
theorem filter_take {f : HV → Bool} {xs : List HV} {j : Nat} (hj : j < xs.length) : ((xs.take (j + 1)).filter fun x => !f x) = ((xs.take j).filter fun x => !f x) ++ (if f xs[j]! = true then [] else [xs[j]!]) := by
  rw [List.take_succ_eq_append_getElem hj, List.filter_append, getElem!_pos xs j hj]
  congr 1
  cases q : f xs[j] <;> simp [q]
theorem drop_get {xs ys : List HV} {j : Nat} (h : ys.drop j = xs.drop j) (hl : ys.length = xs.length) (hj : j < xs.length) : ys[j]! = xs[j]! ∧ ys.drop (j + 1) = xs.drop (j + 1) := by
  have h1 : (ys.drop j)[0]? = (xs.drop j)[0]? := by rw [h]
  simp only [List.getElem?_drop, Nat.add_zero] at h1
  rw [List.getElem?_eq_getElem (by omega), List.getElem?_eq_getElem hj] at h1
  refine ⟨?_, ?_⟩
  · rw [getElem!_pos ys j (by omega), getElem!_pos xs j hj]
    exact Option.some.inj h1
  · have : (ys.drop j).drop 1 = (xs.drop j).drop 1 := by rw [h]
    simpa [List.drop_drop] using this
theorem DelI.start {f : HV → Bool} {xs : List HV} {B : Nat} {w W : World} {g cap Bh : Nat} {h : HV} {k : Nat} (hk : k < xs.length) (hf : f xs[k]! = true) (hm : ∀ j, j < k → f xs[j]! = false) (own : RHp.Own B W (.slice (some ⟨g, 0, none⟩) xs.length cap) xs) (gr : w.grownBy W (some g)) (box : rowOf W Bh = some (hvRow h)) :
    DelI f xs B w W g cap Bh h k (k + 1) xs := by
  refine ⟨by omega, by omega, rfl, own, ?_, rfl, gr, box⟩
  rw [filter_take hk, if_pos hf, List.append_nil]
  refine (List.filter_eq_self.2 fun x hx => ?_).symm
  obtain ⟨j, hj, e⟩ := List.getElem_of_mem hx
  rw [List.length_take] at hj
  have := hm j (by omega)
  rw [getElem!_pos xs j (by omega)] at this
  rw [List.getElem_take] at e
  rw [← e, this]
  rfl
theorem DelI.skip {f : HV → Bool} {xs : List HV} {B : Nat} {w W W' : World} {g cap Bh : Nat} {h : HV} {i j : Nat} {ys : List HV} (D : DelI f xs B w W g cap Bh h i j ys) (hj : j < xs.length) (hf : f xs[j]! = true) (hb : Below W.heap.size W W') : DelI f xs B w W' g cap Bh h i (j + 1) ys :=
  ⟨by have := D.ij; omega, by omega, D.len, D.own.below hb, by rw [filter_take hj, if_pos hf, List.append_nil]; exact D.kept, (drop_get D.rest D.len hj).2, grown_trans D.gr (grown_below hb _), rowOf_below D.box hb (rowOf_lt D.box)⟩
theorem DelI.keep {f : HV → Bool} {xs : List HV} {B : Nat} {w W W' : World} {g cap Bh : Nat} {h : HV} {i j : Nat} {ys : List HV} (D : DelI f xs B w W g cap Bh h i j ys) (hj : j < xs.length) (hf : f xs[j]! = false) (own : RHp.Own B W' (.slice (some ⟨g, 0, none⟩) xs.length cap) (ys.set i xs[j]!)) (gr : W.grownBy W' (some g)) (hne : Bh ≠ g) : DelI f xs B w W' g cap Bh h (i + 1) (j + 1) (ys.set i xs[j]!) := by
  have hij := D.ij
  have hlen := D.len
  refine ⟨by omega, by omega, by rw [List.length_set]; exact D.len, own, ?_, ?_, grown_trans D.gr gr, grown_row gr D.box fun e => hne (Option.some.inj e)⟩
  · rw [filter_take hj, if_neg (by rw [hf]; simp), ← D.kept, List.take_succ_eq_append_getElem (by rw [List.length_set]; omega), List.getElem_set_self, List.take_set_of_le (Nat.le_refl _)]
  · rw [List.drop_set_of_lt (by omega)]
    exact (drop_get D.rest D.len hj).2
theorem DelI.done {f : HV → Bool} {xs : List HV} {B : Nat} {w W : World} {g cap Bh : Nat} {h : HV} {i : Nat} {ys : List HV} (D : DelI f xs B w W g cap Bh h i xs.length ys) : ys.take i = xs.filter fun x => !f x := by
  have := D.kept
  rwa [List.take_length] at this
/-- what DeleteFunc answers -/
def DelP (f : HV → Bool) (xs : List HV) (v : Value) (B : Nat) (w : World) (e : Ending) (w' : World) : Prop :=
  ∃ v', e = .returned v' ∧ RHp.Own B w' v' (xs.filter fun x => !f x) ∧ v'.ownBlock = v.ownBlock ∧ w.grownBy w' v.ownBlock
set_option maxRecDepth 100000 in
set_option maxHeartbeats 16000000 in
theorem delete_own (xs : List HV) (h : HV) (B Bh : Nat) (v : Value) (w : World) (hl : xs.length ≤ 1500000000000) (hown : RHp.Own B w v xs) (hbox : rowOf w Bh = some (hvRow h)) (hne : some Bh ≠ v.ownBlock) :
    Calls Tryz.prog 64 #[v, .func (.func 65) #[] #[.pointer (some ⟨Bh, 0, none⟩)]] w (DelP (fun x => leH h x) xs v B w) := by
  have HI := Lib.hid (index_any_p2 xs (fun x => leH h x) (.pointer (some ⟨Bh, 0, none⟩)) v w hl hown.is fun W x hW => put2_any x h Bh W (rowOf_below hbox hW (rowOf_lt hbox)))
  have HC : Hid (∀ W x, rowOf W Bh = some (hvRow h) → Calls Tryz.prog 65 #[HV.val x, .pointer (some ⟨Bh, 0, none⟩)] W (Ret (.bool (leH h x)) W)) := fun W x hW => put2_any x h Bh W hW
  generalize hf : (fun x => leH h x) = f at HI ⊢
  have HC : Hid (∀ W x, rowOf W Bh = some (hvRow h) → Calls Tryz.prog 65 #[HV.val x, .pointer (some ⟨Bh, 0, none⟩)] W (Ret (.bool (f x)) W)) := fun W x hW => by
    have := HC.out W x hW
    rw [← hf]
    exact this
  clear hf
  have HO := Lib.hid hown
  obtain ⟨_, ⟨rfl, hn0⟩ | ⟨g, cap, cur, rfl, hg0, hg, hle, hmx, hcs, htk⟩⟩ := hown
  · obtain rfl : xs = [] := List.length_eq_zero_iff.1 hn0
    clear hl hn0 HC hne hbox
    go_enter Tryz.func64, Tryz.ntmps64
    go_wp2_with fail
    refine (HI.out).mono ?_
    rintro e w1 ⟨r, rfl, hr, hb1⟩
    obtain rfl : r = -1 := by
      rcases hr with ⟨e, _⟩ | ⟨k, hk, _⟩
      · exact e
      · simp at hk
    have HB := Lib.hid hb1
    clear hr hb1 HI
    go_wp2
    go_returns
    exact ⟨_, rfl, HO.out.below HB.out, rfl, grown_below HB.out _⟩
  · have hne' : Bh ≠ g := fun e => hne (by rw [e]; rfl)
    have hcapn : xs.length ≤ cap := hle
    clear hg hmx hcs htk hg0 hne
    have HBx := Lib.hid hbox
    clear hbox
    go_enter Tryz.func64, Tryz.ntmps64
    go_wp2_with fail
    refine (HI.out).mono ?_
    rintro e w1 ⟨r, rfl, hr, hb1⟩
    have HB := Lib.hid hb1
    clear hb1 HI
    rcases hr with ⟨rfl, hno⟩ | ⟨k, hk, rfl, hfk, hm⟩
    · have HF : Hid ((xs.filter fun x => !f x) = xs) := List.filter_eq_self.2 fun x hx => by simp [hno x hx]
      clear hno HC
      go_wp2
      go_returns
      exact ⟨_, rfl, by rw [HF.out]; exact HO.out.below HB.out, rfl, grown_below HB.out _⟩
    · have hkb : ((k : Int) == -1) = false := by simp
      have HD := Lib.hid (DelI.start (f := f) (w := w) (h := h) (Bh := Bh) hk hfk hm (HO.out.below HB.out) (grown_below HB.out _) (rowOf_below HBx.out HB.out (rowOf_lt HBx.out)))
      clear hfk hm HO HBx
      generalize hn : xs.length = n at *
      have HN := Lib.hid hn
      clear hn
      go_wp2
      go_loopg [5, 6] n (fun gg iv jv wr => ∃ (i j : Nat) (ys : List HV), n - j ≤ gg ∧ iv = .int .i64 (i : Int) ∧ jv = .int .i64 (j : Int) ∧ Hid (DelI f xs B w wr g cap Bh h i j ys))
      case atStart => exact ⟨k, k + 1, xs, by omega, rfl, by go_num, HD.out⟩
      case round =>
        obtain ⟨i, j, ys, hgg, rfl, rfl, HD⟩ := hrel
        have hij := HD.out.ij
        have hjn : j ≤ n := by rw [← HN.out]; exact HD.out.jn
        by_cases hlt : j < n
        · have hlz : (j : Int) < (n : Int) := by omega
          have hjx : j < xs.length := by rw [HN.out]; exact hlt
          have hyl : ys.length = xs.length := HD.out.len
          have hget := (drop_get HD.out.rest hyl hjx).1
          have E1 : elemL wr ⟨g, j * 11, none⟩ 0 11 = some (HV.enc xs[j]!) := by
            have := own_elem HD.out.own (Below.refl _ _) j (by omega)
            rw [hget] at this
            exact this
          have HSk := Lib.hid (fun (hf : f xs[j]! = true) W' hb => HD.out.skip (W' := W') hjx hf hb)
          have HKp := Lib.hid (fun (hf : f xs[j]! = false) W0 (h0 : Below wr.heap.size wr W0) W' own gr => (DelI.keep (W := W0) (W' := W') ⟨hij, HD.out.jn, hyl, HD.out.own.below h0, HD.out.kept, HD.out.rest, grown_trans HD.out.gr (grown_below h0 _), rowOf_below HD.out.box h0 (rowOf_lt HD.out.box)⟩ hjx hf own gr hne'))
          generalize hy : xs[j]! = y at *
          have HY := Lib.hid hy
          clear hy hget
          go_upto_region 8 with (fail)
          refine gen_world (fun W2 => Below wr.heap.size wr W2 ∧ wr.heap.size < W2.heap.size ∧ rowOf W2 wr.heap.size = some (hvRow y)) ⟨by first | exact (Below.refl _ _).alloc (Nat.le_refl _) _ | skip, by simp, by first | exact rowOf_alloc_at _ _ _ rfl | skip⟩ ?_
          rintro w2 ⟨hB2, hz2, hrow2⟩
          have E2 := row_elem hrow2
          have HC2 := Lib.hid (HC.out w2 y (rowOf_below HD.out.box hB2 (rowOf_lt HD.out.box)))
          clear E1 HC HB
          have HB2 := Lib.hid hB2
          have HRow := Lib.hid hrow2
          clear hB2 hrow2
          cases hq : f y
          · rw [hq] at HC2
            go_wp2_with fail
            refine (HC2.out).mono ?_
            rintro e w3 ⟨rfl, hb3⟩
            have HB3 := Lib.hid (bstep HB2.out hb3 HB2.out.size)
            have E3 := row_elem (rowOf_below HRow.out hb3 (rowOf_lt HRow.out))
            have HO3 := Lib.hid (HD.out.own.below HB3.out)
            have hil : i < ys.length := by have := HN.out; omega
            clear hb3 E2 HC2
            go_wp2_with (refine RowKind.Own.storeAt (R := RHp) HO3.out Tryz.sizeOf55 hil y rfl _ _ rfl rfl rfl ?_; intro w4 hO4 hG4)
            have HD4 := Lib.hid (HKp.out hq w3 HB3.out w4 hO4 hG4)
            clear hO4 hG4 E3 HO3 HSk HKp HD hq
            go_roundg (n - (j + 1))
            case measure => omega
            case rel => exact ⟨i + 1, j + 1, _, Nat.le_refl _, by go_num, by go_num, HD4.out⟩
          · rw [hq] at HC2
            go_wp2_with fail
            refine (HC2.out).mono ?_
            rintro e w3 ⟨rfl, hb3⟩
            have HB3 := Lib.hid (bstep HB2.out hb3 HB2.out.size)
            have HD3 := Lib.hid (HSk.out hq _ HB3.out)
            clear hb3 E2 HC2 HSk HKp HD hq
            go_wp2
            go_roundg (n - (j + 1))
            case measure => omega
            case rel => exact ⟨i, j + 1, ys, Nat.le_refl _, rfl, by go_num, HD3.out⟩
        · obtain rfl : j = n := by omega
          have hlz : ¬ (j : Int) < (j : Int) := by omega
          have hil : i ≤ ys.length := by have := HD.out.len; have := HN.out; omega
          have hlen : ys.length = j := by rw [HD.out.len, HN.out]
          have HO3 := Lib.hid HD.out.own
          have HG3 := Lib.hid HD.out.gr
          have HK3 : Hid (ys.take i = xs.filter fun x => !f x) := by
            have D := HD.out
            rw [← HN.out] at D
            exact D.done
          clear HD HC
          go_wp2_with (refine RowKind.Own.clearL (R := RHp) (c := cap - i) HO3.out Tryz.zeroValue55 zhop_one hil rfl _ rfl (by rw [hlen]; rfl) ?_; intro w4 hO4 hG4)
          have HO5 := Lib.hid hO4
          have HG5 := Lib.hid (grown_trans HG3.out hG4)
          clear hO4 hG4 HO3 HG3
          go_wp2
          go_returns
          refine ⟨_, rfl, ?_, rfl, HG5.out⟩
          rw [← HK3.out]
          exact HO5.out
end Go.Proofs.YtjaahmgokiobjaaGreat
/- the program's put -/
namespace Go.Proofs.YtjaahmgokiobjaaGreat
open Go.RowKit
set_option linter.unusedVariables false
set_option linter.unusedSimpArgs false
attribute [local go_sem ↓] loadH loadT storeH storeT
attribute [local simp] size_setRow
attribute [local go_sem] rowAt_head rowOf_alloc_at rowOf_alloc_past rowOf_drew rowOf_drewN rowOf_setRow_same rowOf_setRow_other rowOf_setCell_same rowOf_setCell_other size_setRow setRow_drew setRow_alloc_at setRow_alloc_past one_int one_bool cell_setRow_same cell_setRow_other frozen_setRow_same frozen_setRow_other
attribute [local go_sem ↓] run_imin

namespace RowKind
theorem Own.appendBL {α : Type} {R : RowKind α} {ops : Array Oper} {rest : List Oper} {o : Oper} {a : Act} {Q : Exit → Act → World → Prop} {w : World} (hb0 : 0 < R.bytes) (hgd : o.guard = none) (s x : Operand)
    (ho : o.op = .call { callee := .builtin .append, args := #[s, x], argTypes := #[R.tS, R.tS] }) {B : Nat} {v vx : Value} {xs : List α} (hown : R.Own B w v xs) (hs : a.eval s = v) (ys : List α)
    (hx : a.eval x = vx) (hz : R.App w vx ys) (hlen : (xs.length + ys.length) * R.bytes ≤ 140737488355328) (hbase : B ≤ w.heap.size)
    (h : ∀ v' w', R.Own B w' v' (xs ++ ys) → w.grownBy w' v.ownBlock → StaysOrNew w v v' → wpList Tryz.prog ops Q rest (a.put o.dst v') w') : wpList Tryz.prog ops Q (o :: rest) a w := by
  obtain ⟨v', w', hr, h1, h2, h3⟩ := run_appendBL hown hz hb0 hlen hbase o.type
  exact wpList_plain hgd fun _ hK => wp_of_runB ho (by rw [hs, hx]; exact hr) (hK _ _ (h v' w' h1 h2 h3))
end RowKind
/-- what put answers -/
def PutP (xs : List HV) (h : HV) (v : Value) (B : Nat) (w : World) (e : Ending) (w' : World) : Prop :=
  ∃ v', e = .returned (.tuple #[v', .bool (!putNo xs h)]) ∧ RHp.Own B w' v' (putL xs h) ∧ w.grownBy w' v.ownBlock ∧ StaysOrNew w v v'
theorem grown_alloc {w w' : World} {o : Obj} {r : Option Nat} (h : (w.alloc o).grownBy w' r) : w.grownBy w' r :=
  ⟨h.os, h.tape, h.output, Nat.le_trans (by simp) h.size, fun k hk hne => (h.block k (by simp; omega) hne).trans (Below.heap_alloc w o k hk)⟩
theorem stays_alloc {w : World} {o : Obj} {v v' : Value} (h : StaysOrNew (w.alloc o) v v') : StaysOrNew w v v' := by
  rcases h with h | h
  · exact .inl h
  · exact .inr fun k hk => by have := h k hk; simp at this; omega
theorem stays_trans {w w1 : World} {v v1 v2 : Value} (hs : w.heap.size ≤ w1.heap.size) (h : v1.ownBlock = v.ownBlock) (k : StaysOrNew w1 v1 v2) : StaysOrNew w v v2 := by
  rcases k with k | k
  · exact .inl (k.trans h)
  · exact .inr fun i hi => Nat.le_trans hs (k i hi)
set_option maxRecDepth 100000 in
set_option maxHeartbeats 16000000 in
theorem pput_any (xs : List HV) (h : HV) (B : Nat) (v : Value) (w : World) (hl : xs.length ≤ 1500000000000) (hown : RHp.Own B w v xs) (hB : B ≤ w.heap.size) :
    Calls Tryz.prog 35 #[v, h.val] w (PutP xs h v B w) := by
  have HR := Lib.hid (fun W => jright_is (h := h) rfl W)
  have HO := Lib.hid hown
  have hne : some w.heap.size ≠ v.ownBlock := fun e => by have := (hown.lt _ e.symm).2; omega
  have HN := Lib.hid hne
  have HC : Hid (∀ W, Below w.heap.size w W → rowOf W w.heap.size = some (hvRow h) → Calls Tryz.prog 16 #[v, .func (.func 62) #[] #[.pointer (some ⟨w.heap.size, 0, none⟩)]] W (Ret (.bool (xs.any fun x => leH x h)) W)) := fun W hW hr =>
    contains_any_p1 xs (fun x => leH x h) _ v W hl (hown.is.below hW) fun W' x hW' => put1_any x h _ W' (rowOf_below hr hW' (rowOf_lt hr))
  have HD : Hid (∀ W, Below w.heap.size w W → rowOf W w.heap.size = some (hvRow h) → Calls Tryz.prog 64 #[v, .func (.func 65) #[] #[.pointer (some ⟨w.heap.size, 0, none⟩)]] W (DelP (fun x => leH h x) xs v B W)) := fun W hW hr =>
    delete_own xs h B _ v W hl (hown.below hW) hr hne
  clear hown hne
  have HS := Lib.hid hB
  have hfl : ((xs.filter fun x => !leH h x).length + [h].length) * RHp.bytes ≤ 140737488355328 := by
    have := List.length_filter_le (fun x => !leH h x) xs
    show (_ + 1) * 88 ≤ _
    omega
  have HFL := Lib.hid hfl
  clear hfl
  cases hr : h.rightB
  · have hp : putNo xs h = true := by unfold putNo; rw [hr]; rfl
    have e1 : putL xs h = xs := by unfold putL; rw [if_pos hp]
    unfold PutP
    rw [hp, e1]
    rw [hr] at HR
    clear HC HD hr hp e1
    go_enter Tryz.func35, Tryz.ntmps35
    go_wp2_with fail
    refine (HR.out _).mono ?_
    rintro e w1 ⟨rfl, hb1⟩
    have HB1 := Lib.hid (bcall (B := w.heap.size) (a := w) (by go_grown) hb1 (by go_size))
    clear hb1
    go_wp2
    go_returns
    exact ⟨v, rfl, HO.out.below HB1.out, grown_below HB1.out _, .inl rfl⟩
  · rw [hr] at HR
    cases ha : xs.any fun x => leH x h
    · have hp : putNo xs h = false := by unfold putNo; rw [hr, ha]; rfl
      have e1 : putL xs h = (xs.filter fun x => !leH h x) ++ [h] := by unfold putL; rw [if_neg (by rw [hp]; simp)]
      unfold PutP
      rw [hp, e1]
      rw [ha] at HC
      clear hr hp e1 ha
      go_enter Tryz.func35, Tryz.ntmps35
      go_wp2_with fail
      refine (HR.out _).mono ?_
      rintro e w1 ⟨rfl, hb1⟩
      have HB1 := Lib.hid (bcall (B := w.heap.size) (a := w) (by go_grown) hb1 (by go_size))
      have HW1 : Hid (rowOf w1 w.heap.size = some (hvRow h)) := rowOf_below (rowOf_alloc_at _ _ _ rfl) hb1 (by simp)
      have hz1 : w.heap.size < w1.heap.size := rowOf_lt HW1.out
      clear hb1 HR
      go_wp2_with fail
      refine (HC.out _ HB1.out HW1.out).mono ?_
      rintro e w2 ⟨rfl, hb2⟩
      have HB2 := Lib.hid (bstep HB1.out hb2 HB1.out.size)
      have HW2 : Hid (rowOf w2 w.heap.size = some (hvRow h)) := rowOf_below HW1.out hb2 hz1
      clear hb2 HC HB1 HW1 hz1
      go_wp2_with fail
      refine (HD.out _ HB2.out HW2.out).mono ?_
      rintro e w3 ⟨v3, rfl, ho3, hk3, hg3⟩
      have HO3 := Lib.hid ho3
      have HK3 := Lib.hid hk3
      have HG3 := Lib.hid (grown_trans (grown_below HB2.out _) hg3)
      have N_b := grown_row hg3 HW2.out HN.out
      have L_b := rowOf_lt N_b
      clear ho3 hk3 hg3 HD HB2 HW2
      go_wp2_with (at_builtin; refine RowKind.Own.appendBL (R := RHp) (by decide) rfl _ _ rfl (HO3.out.alloc _) rfl [h] rfl (RowKind.Row.app (R := RHp) (RowKind.Row.new (R := RHp) _ h _)) HFL.out (by have := HS.out; have := HG3.out.size; simp; omega) ?_; intro v4 w4 hO4 hG4 hS4)
      have HO5 := Lib.hid hO4
      have HG5 : Hid (w.grownBy w4 v.ownBlock) := grown_trans HG3.out (by have := grown_alloc hG4; rw [HK3.out] at this; exact this)
      have HS5 : Hid (StaysOrNew w v v4) := stays_trans HG3.out.size HK3.out (stays_alloc hS4)
      clear hO4 hG4 hS4 N_b L_b
      go_wp2
      go_returns
      exact ⟨v4, rfl, HO5.out, HG5.out, HS5.out⟩
    · have hp : putNo xs h = true := by unfold putNo; rw [hr, ha]; rfl
      have e1 : putL xs h = xs := by unfold putL; rw [if_pos hp]
      unfold PutP
      rw [hp, e1]
      rw [ha] at HC
      clear HD hr hp e1 ha
      go_enter Tryz.func35, Tryz.ntmps35
      go_wp2_with fail
      refine (HR.out _).mono ?_
      rintro e w1 ⟨rfl, hb1⟩
      have HB1 := Lib.hid (bcall (B := w.heap.size) (a := w) (by go_grown) hb1 (by go_size))
      have HW1 : Hid (rowOf w1 w.heap.size = some (hvRow h)) := rowOf_below (rowOf_alloc_at _ _ _ rfl) hb1 (by simp)
      have hz1 : w.heap.size < w1.heap.size := rowOf_lt HW1.out
      clear hb1 HR
      go_wp2_with fail
      refine (HC.out _ HB1.out HW1.out).mono ?_
      rintro e w2 ⟨rfl, hb2⟩
      have HB2 := Lib.hid (bstep HB1.out hb2 HB1.out.size)
      clear hb2 HC HB1 HW1 hz1
      go_wp2
      go_returns
      exact ⟨v, rfl, HO.out.below HB2.out, grown_below HB2.out _, .inl rfl⟩
theorem gen_c {P : Program} {f : FuncId} {args : Array Value} {R : Ending → World → Prop} {W : World} (F : World → Prop) (hF : F W) (h : ∀ W2, F W2 → Calls P f args W2 R) : Calls P f args W R := h W hF
end Go.Proofs.YtjaahmgokiobjaaGreat
