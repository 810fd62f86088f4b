/- route.Split: the parts of a bag, each in the bag's order -/
import Derived.Test.YtbjecaajeokdoaaKc
import Derived.Test.YtbjecaajeokdoaaKa
import Derived.Deep.RegionLaw
namespace Go.Proofs.Ytbjecaajeokdoaa
open Go.RowKit
set_option linter.unusedVariables false
set_option linter.unusedSimpArgs false

/-- a worker's part -/
def partI (n : Nat) (xs : List IV) (m : Nat) : List IV := xs.filter fun c => decide (workerW c.t.k (n : Int) = (m : Int))
def partsI (n : Nat) (xs : List IV) : List (List IV) := (List.range n).map (partI n xs)
theorem parts_len (n : Nat) (xs : List IV) : (partsI n xs).length = n := by unfold partsI; rw [List.length_map, List.length_range]
theorem parts_get {n m : Nat} (xs : List IV) (hm : m < n) : (partsI n xs)[m]! = partI n xs m := by
  rw [getElem!_pos _ m (by rw [parts_len]; exact hm)]
  simp [partsI]
theorem part_le (n : Nat) (xs : List IV) (m : Nat) : (partI n xs m).length ≤ xs.length := List.length_filter_le _ _
theorem parts_nil (n : Nat) : partsI n [] = List.replicate n [] := by
  apply List.ext_getElem
  · rw [parts_len, List.length_replicate]
  · intro i h1 h2
    simp [partsI, partI]
theorem take_getI (xs : List IV) (k : Nat) (h : k < xs.length) : xs.take (k + 1) = xs.take k ++ [xs[k]!] := by
  rw [getElem!_pos xs k h]
  exact List.take_succ_eq_append_getElem h
theorem part_succ {n : Nat} {xs : List IV} {k : Nat} (hk : k < xs.length) (m : Nat) : partI n (xs.take (k + 1)) m = partI n (xs.take k) m ++ (if workerW xs[k]!.t.k n = m then [xs[k]!] else []) := by
  unfold partI
  rw [take_getI xs k hk, List.filter_append]
  congr 1
  generalize xs[k]! = x
  by_cases h : workerW x.t.k n = m <;> simp [h]
theorem parts_succ {n : Nat} {xs : List IV} {k : Nat} (hk : k < xs.length) (m : Nat) (hm : m < n) (he : workerW xs[k]!.t.k n = m) :
    partsI n (xs.take (k + 1)) = (partsI n (xs.take k)).set m ((partsI n (xs.take k))[m]! ++ [xs[k]!]) := by
  apply List.ext_getElem
  · rw [parts_len, List.length_set, parts_len]
  · intro i h1 h2
    have hi : i < n := by rw [parts_len] at h1; exact h1
    rw [← getElem!_pos _ i h1, parts_get _ hi, part_succ hk, List.getElem_set]
    by_cases e : m = i
    · subst e
      rw [if_pos rfl, if_pos he, parts_get _ hm]
    · rw [if_neg e, if_neg (by rw [he]; omega), List.append_nil, ← getElem!_pos _ i (by rw [parts_len]; exact hi), parts_get _ hi]
theorem gen_cK {α : Type} {x : α} {G : α → Prop} (P : α → Prop) (hx : P x) (h : ∀ y, P y → G y) : G x := h x hx
/-- what Split answers: a row of the call's own, of rows of its own -/
def SplitR (rows : List (List IV)) (w : World) (e : Ending) (w' : World) : Prop :=
  ∃ blk svs, e = .returned (.slice (some ⟨blk, 0, none⟩) rows.length rows.length) ∧ OII w.heap.size w' blk svs rows ∧ Below w.heap.size w w'
theorem split_no (n : Int) (v : Value) (w : World) (hn : ¬ (1 ≤ n ∧ n ≤ 64)) : Calls Try.prog 8 #[v, .int .i64 n] w (RetZ (.slice none 0 0) w) := by
  have HR := Lib.hid (wright_any n w)
  have hr : rightW n = false := decide_eq_false hn
  rw [hr] at HR
  go_enter Try.func8, Try.ntmps8
  go_wp2_with fail
  refine (HR.out).mono ?_
  rintro e w1 ⟨rfl, rfl⟩
  go_wp2
  go_returns
  exact ⟨rfl, rfl⟩
set_option maxRecDepth 100000 in
set_option maxHeartbeats 8000000 in
theorem split_any (n : Nat) (xs : List IV) (v : Value) (w : World) (hn : 1 ≤ n ∧ n ≤ 64) (hl : xs.length ≤ 900000) (h : RI.Is w v xs) :
    Calls Try.prog 8 #[v, .int .i64 n] w (SplitR (partsI n xs) w) := by
  have HR := Lib.hid (wright_any n w)
  have hr : rightW n = true := decide_eq_true (by omega)
  rw [hr] at HR
  have HW := Lib.hid (fun k W => worker_any k n W)
  have HWr := Lib.hid (fun k => worker_range (k := k) (n := n) (by omega))
  have hmk := fun W => make_ii n (by omega) W
  have HO0 := Lib.hid (OII.made w n)
  have HB0 : Hid (Below w.heap.size w (w.alloc (.cells (svCellsI (List.replicate n ⟨none, 0, 0⟩)) 25))) := (Below.refl _ _).alloc (Nat.le_refl _) _
  obtain ⟨p, c, rfl⟩ := h.slice
  have HI := Lib.hid h
  have HP0 := Lib.hid (parts_nil n)
  have hn64 := hn.2
  clear hn h hr
  go_enter Try.func8, Try.ntmps8
  go_wp2_with fail
  refine (HR.out).mono ?_
  rintro e w1 ⟨rfl, rfl⟩
  go_wp2_with fail
  clear hmk HR
  refine gen_cK (fun W2 => Hid (OII w1.heap.size W2 w1.heap.size (List.replicate n ⟨none, 0, 0⟩) (List.replicate n [])) ∧ Hid (Below w1.heap.size w1 W2)) ⟨HO0, HB0⟩ ?_
  rintro w2 ⟨HO2, HB2⟩
  clear HO0 HB0
  go_loopg [16] xs.length (fun gg i wr => ∃ (k : Nat) (svs : List SVI), k ≤ xs.length ∧ xs.length - k ≤ gg ∧ i = .int .i64 (k : Int) ∧ Hid (OII w1.heap.size wr w1.heap.size svs (partsI n (xs.take k))) ∧ Hid (Below w1.heap.size w1 wr))
  case atStart => exact ⟨0, List.replicate n ⟨none, 0, 0⟩, Nat.zero_le _, by omega, rfl, by rw [List.take_zero, HP0.out]; exact HO2.out, HB2.out⟩
  case round =>
    obtain ⟨k, svs, hk, hg, rfl, HO, HB⟩ := hrel
    have hz : w1.heap.size ≤ wr.heap.size := Nat.le_of_lt HO.out.lt
    clear HO2 HB2 HP0
    by_cases hlt : k < xs.length
    · obtain ⟨b, off, rfl, hbl, hrow⟩ : ∃ b off, p = some ⟨b, off, none⟩ ∧ b < wr.heap.size ∧ RI.Row wr b off xs := by
        rcases HI.out.below HB.out with ⟨e, _⟩ | ⟨_, b2, o2, cap2, e, hb, hr⟩
        · rw [e] at hlt; exact absurd hlt (Nat.not_lt_zero _)
        · cases e; exact ⟨b2, o2, rfl, hb, hr⟩
      obtain ⟨e0, e1, e2⟩ := atI hrow k hlt
      have HS := Lib.hid (fun m hm he => parts_succ (n := n) hlt m hm he)
      have hPl : ∀ m, m < n → List.length (partsI n (xs.take k))[m]! ≤ 900000 := fun m hm => by
        rw [parts_get _ hm]
        exact Nat.le_trans (part_le _ _ _) (by rw [List.length_take]; omega)
      have HPl := Lib.hid hPl
      have HPn := Lib.hid (parts_len n (xs.take k))
      have hlz : (k : Int) < (xs.length : Int) := by omega
      generalize hx : xs[k]! = x at *
      generalize partsI n (xs.take k) = rows at *
      obtain ⟨⟨xk, xv⟩, xn⟩ := x
      simp only at e0 e1 e2
      clear hrow hPl hx
      go_upto_region 7 with (fail)
      refine gen_world (fun W3 => Below wr.heap.size wr W3 ∧ Boxed W3 wr.heap.size #[.int .i64 xk, .int .i64 xv, .int .i64 xn] 31) ⟨by first | exact (Below.refl _ _).alloc (Nat.le_refl _) _ | go_grown, by first | exact heap_alloc_new _ _ | skip⟩ ?_
      rintro w3 ⟨hB3, hx3⟩
      have HB3 : Hid (Below w1.heap.size w1 w3) := HB.out.trans (hB3.mono hz)
      have HO3 := Lib.hid (HO.out.below hB3)
      have hz3 : w1.heap.size ≤ w3.heap.size := Nat.le_of_lt HO3.out.lt
      have HX3 := Lib.hid hx3
      have x0 : w3.cell? ⟨wr.heap.size, 0, none⟩ = some (.int .i64 xk) := hx3.cell 0
      have x1 : w3.cell? ⟨wr.heap.size, 1, none⟩ = some (.int .i64 xv) := hx3.cell 1
      have x2 : w3.cell? ⟨wr.heap.size, 2, none⟩ = some (.int .i64 xn) := hx3.cell 2
      generalize hbx : wr.heap.size = bx at *
      clear e0 e1 e2 hB3 hx3 HO HB hz
      have HWx := Lib.hid (HW.out xk w3)
      have hwr := HWr.out xk
      have HSx : Hid (∀ m : Nat, m < n → workerW xk n = m → partsI n (xs.take (k + 1)) = rows.set m (rows[m]! ++ [⟨⟨xk, xv⟩, xn⟩])) := HS.out
      go_upto_region 8 with (refine (HWx.out).mono ?_; rintro e wq ⟨rfl, rfl⟩)
      obtain ⟨m, hm⟩ : ∃ m : Nat, workerW xk n = (m : Int) := ⟨(workerW xk n).toNat, by omega⟩
      have hmn : m < n := by omega
      have HSm := Lib.hid (HSx.out m hmn hm)
      rw [hm]
      clear HS HSx HWx hwr hm
      have hms : m < svs.length := by have := HO3.out.len; have := HPn.out; omega
      have hzA : w1.heap.size ≤ ((wq.alloc (.cells #[.int .i64 xk, .int .i64 xv, .int .i64 xn] 31)).drew).heap.size := Nat.le_trans hz3 (by simp)
      have HOa : Hid (OII w1.heap.size ((wq.alloc (.cells #[.int .i64 xk, .int .i64 xv, .int .i64 xn] 31)).drew) w1.heap.size svs rows) := (HO3.out.below ((Below.refl _ _).alloc (Nat.le_refl _) _)).drew
      have HBa : Hid (Below w1.heap.size w1 ((wq.alloc (.cells #[.int .i64 xk, .int .i64 xv, .int .i64 xn] 31)).drew)) := (HB3.out.alloc hz3 _).drew
      have HApp := Lib.hid (fun v5 w5 ys (ho : RI.Own w1.heap.size w5 v5 ys) (hg : World.grownBy ((wq.alloc (.cells #[.int .i64 xk, .int .i64 xv, .int .i64 xn] 31)).drew) w5 svs[m]!.val.ownBlock) (hs : StaysOrNew ((wq.alloc (.cells #[.int .i64 xk, .int .i64 xv, .int .i64 xn] 31)).drew) svs[m]!.val v5) => HOa.out.app hzA hms hg ho hs)
      have HAp : Hid (RI.App ((wq.alloc (.cells #[.int .i64 xk, .int .i64 xv, .int .i64 xn] 31)).drew) (.slice (some ⟨wq.heap.size, 0, none⟩) 1 1) [⟨⟨xk, xv⟩, xn⟩]) := RowKind.Row.app (R := RI) (c := 1) (ys := [⟨⟨xk, xv⟩, xn⟩]) ((RowKind.Row.new (R := RI) wq ⟨⟨xk, xv⟩, xn⟩ 31).below (Below.refl (wq.heap.size + 1) _).drew (Nat.lt_succ_self _))
      have HOwn := Lib.hid (HOa.out.own m hms)
      have hcs := HO3.out.cell m hms
      have hca := (HO3.out.below ((Below.refl _ _).alloc (Nat.le_refl _) (.cells #[.int .i64 xk, .int .i64 xv, .int .i64 xn] 31))).cell m hms
      have HLen : Hid ((rows[m]!).length + [(⟨⟨xk, xv⟩, xn⟩ : IV)].length ≤ 1000000) := by have := HPl.out m hmn; show _ + 1 ≤ _; omega
      have HSz := Lib.hid hzA
      have hfr := HO3.out.frozen m
      generalize hsv : svs[m]! = s at *
      obtain ⟨pn, nn, cn⟩ := s
      have HKeep : Hid (∀ v5 w5 ys', OGrownI w1.heap.size ((wq.alloc (.cells #[.int .i64 xk, .int .i64 xv, .int .i64 xn] 31)).drew) w5 w1.heap.size m svs rows v5 ys' → w5.cell? ⟨w1.heap.size, m, none⟩ = some (.slice pn nn cn) ∧ w5.frozen? ⟨w1.heap.size, m, none⟩ = false) := fun v5 w5 ys' o => ⟨by have := o.cell; rw [hsv] at this; exact this, o.frozen⟩
      have hmz : (m : Int) < (n : Int) := by omega
      clear hsv HOa HPl HO3 HX3 hzA
      go_region_law (first | (refine RowKind.Own.appendBR (R := RI) (w := (wq.alloc (.cells #[.int .i64 xk, .int .i64 xv, .int .i64 xn] 31)).drew) rfl _ _ rfl HOwn.out rfl [⟨⟨xk, xv⟩, xn⟩] rfl HAp.out HLen.out HSz.out ?_; intro v5 w5 hO5 hg5 hs5; have hA := HApp.out v5 w5 _ hO5 hg5 hs5; obtain ⟨a1, a2⟩ := HKeep.out _ _ _ hA; have hbl := hA.below; obtain ⟨⟨q5, n5, d5⟩, hv5, hN⟩ := hA.new; subst hv5; have HN := Lib.hid hN; have HBl := Lib.hid hbl; clear hA hO5 hg5 hs5 hN hbl))
      all_goals
        try simp only [List.getElem_toArray, List.getElem_cons_succ, List.getElem_cons_zero, Act.put, List.setIfInBounds_toArray, List.set_cons_zero, List.set_cons_succ]
        go_wp2_with fail
        go_roundg (xs.length - (k + 1))
        case measure => omega
        case rel => exact ⟨k + 1, svs.set m ⟨q5, n5, d5⟩, by omega, by omega, by go_num, by rw [HSm.out]; exact HN.out, HBa.out.trans HBl.out⟩
    · obtain rfl : k = xs.length := by omega
      rw [List.take_length] at HO
      have HL := Lib.hid (parts_len n xs)
      go_wp2
      go_returns
      exact ⟨w1.heap.size, svs, by rw [HL.out]; rfl, HO.out, HB.out⟩
end Go.Proofs.Ytbjecaajeokdoaa
