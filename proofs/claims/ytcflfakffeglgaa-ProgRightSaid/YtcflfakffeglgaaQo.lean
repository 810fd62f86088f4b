/- the program's own take, needs, work -/
import Derived.Test.YtcflfakffeglgaaQn
namespace Go.Proofs.Ytcflfakffeglgaa
open Go.RowKit
set_option linter.unusedVariables false
set_option linter.unusedSimpArgs false

set_option maxRecDepth 100000 in
set_option maxHeartbeats 4000000 in
theorem ptake0 {B bm : Nat} {rk rv : Int} {w : World} {pc : Int} {p : Option Addr} {m c : Nat} {ov : Value} {S : List Int} {O : List RV} (h : Mach B bm rk rv w pc (.slice p m c) ov S O) (hm : m ≤ 100) (hc : m ≤ c) (hp : p = none ∨ ∃ g, p = some ⟨g, 0, none⟩) :
    Calls Try.prog 22 #[.pointer (some ⟨bm, 0, none⟩), .int .i64 0] w (fun e w' => (∃ tv, e = .returned tv) ∧ w' = w.setCell ⟨bm, 3, none⟩ (.slice p m c)) := by
  have c3 : w.cell? ⟨bm, 3, none⟩ = some (.slice p m c) := rowOf_cell h.row 3
  have e3 := rowOf_frozen h.row 3
  have hA : (if c = 0 then p else Option.map (fun x => x.add 0) p) = p := by
    rcases hp with rfl | ⟨g, rfl⟩ <;> simp [Addr.add]
  clear h hp
  go_enter Try.func22, Try.ntmps22
  go_wp2
  go_returns
  exact ⟨⟨_, rfl⟩, rfl⟩
set_option maxRecDepth 100000 in
set_option maxHeartbeats 4000000 in
theorem ptake1 {B bm : Nat} {rk rv : Int} {w : World} {pc : Int} {g m c : Nat} {ov : Value} {S : List Int} {O : List RV} (h : Mach B bm rk rv w pc (.slice (some ⟨g, 0, none⟩) (m + 1) c) ov S O) (hm : m ≤ 100) (hc : m + 1 ≤ c) :
    Calls Try.prog 22 #[.pointer (some ⟨bm, 0, none⟩), .int .i64 1] w (fun e w' => e = .returned (.slice (some ⟨g, m, none⟩) 1 1) ∧ w' = w.setCell ⟨bm, 3, none⟩ (.slice (some ⟨g, 0, none⟩) m c)) := by
  have c3 : w.cell? ⟨bm, 3, none⟩ = some (.slice (some ⟨g, 0, none⟩) (m + 1) c) := rowOf_cell h.row 3
  have e3 := rowOf_frozen h.row 3
  clear h
  go_enter Try.func22, Try.ntmps22
  go_wp2
  go_returns
  exact ⟨rfl, rfl⟩
set_option maxRecDepth 100000 in
set_option maxHeartbeats 4000000 in
theorem ptake2 {B bm : Nat} {rk rv : Int} {w : World} {pc : Int} {g m c : Nat} {ov : Value} {S : List Int} {O : List RV} (h : Mach B bm rk rv w pc (.slice (some ⟨g, 0, none⟩) (m + 2) c) ov S O) (hm : m ≤ 100) (hc : m + 2 ≤ c) :
    Calls Try.prog 22 #[.pointer (some ⟨bm, 0, none⟩), .int .i64 2] w (fun e w' => e = .returned (.slice (some ⟨g, m, none⟩) 2 2) ∧ w' = w.setCell ⟨bm, 3, none⟩ (.slice (some ⟨g, 0, none⟩) m c)) := by
  have c3 : w.cell? ⟨bm, 3, none⟩ = some (.slice (some ⟨g, 0, none⟩) (m + 2) c) := rowOf_cell h.row 3
  have e3 := rowOf_frozen h.row 3
  have hs : m + 2 - m = 2 := by omega
  clear h
  go_enter Try.func22, Try.ntmps22
  go_wp2
  go_returns
  exact ⟨retV (show Value.slice (some ⟨g, m, none⟩) (m + 2 - m) (m + 2 - m) = _ by rw [hs]), rfl⟩
theorem takesN_ok {op : Int} (h : 1 ≤ op) (h2 : op ≤ 16) : takesN op ≤ 2 ∧ givesN op ≤ 2 := by
  unfold takesN givesN
  constructor <;> (repeat' split) <;> omega
set_option maxHeartbeats 8000000 in
theorem pneeds_any (op : Int) (h : 1 ≤ op) (h2 : op ≤ 16) (w : World) : Calls Try.prog 21 #[.int .i64 op] w (RetW (.tuple #[.int .i64 (takesN op : Int), .int .i64 (givesN op : Int)]) w) := by
  rcases (by omega : op = 1 ∨ op = 2 ∨ op = 3 ∨ op = 4 ∨ op = 5 ∨ op = 6 ∨ op = 7 ∨ op = 8 ∨ op = 9 ∨ op = 10 ∨ op = 11 ∨ op = 12 ∨ op = 13 ∨ op = 14 ∨ op = 15 ∨ op = 16) with rfl | rfl | rfl | rfl | rfl | rfl | rfl | rfl | rfl | rfl | rfl | rfl | rfl | rfl | rfl | rfl
  · show Calls _ _ _ _ (RetW (.tuple #[.int .i64 0, .int .i64 1]) w)
    go_enter Try.func21, Try.ntmps21
    go_wp2
    all_goals go_returns
    all_goals exact ⟨rfl, rfl⟩
  · show Calls _ _ _ _ (RetW (.tuple #[.int .i64 0, .int .i64 1]) w)
    go_enter Try.func21, Try.ntmps21
    go_wp2
    all_goals go_returns
    all_goals exact ⟨rfl, rfl⟩
  · show Calls _ _ _ _ (RetW (.tuple #[.int .i64 0, .int .i64 1]) w)
    go_enter Try.func21, Try.ntmps21
    go_wp2
    all_goals go_returns
    all_goals exact ⟨rfl, rfl⟩
  · show Calls _ _ _ _ (RetW (.tuple #[.int .i64 2, .int .i64 1]) w)
    go_enter Try.func21, Try.ntmps21
    go_wp2
    all_goals go_returns
    all_goals exact ⟨rfl, rfl⟩
  · show Calls _ _ _ _ (RetW (.tuple #[.int .i64 2, .int .i64 1]) w)
    go_enter Try.func21, Try.ntmps21
    go_wp2
    all_goals go_returns
    all_goals exact ⟨rfl, rfl⟩
  · show Calls _ _ _ _ (RetW (.tuple #[.int .i64 2, .int .i64 1]) w)
    go_enter Try.func21, Try.ntmps21
    go_wp2
    all_goals go_returns
    all_goals exact ⟨rfl, rfl⟩
  · show Calls _ _ _ _ (RetW (.tuple #[.int .i64 2, .int .i64 1]) w)
    go_enter Try.func21, Try.ntmps21
    go_wp2
    all_goals go_returns
    all_goals exact ⟨rfl, rfl⟩
  · show Calls _ _ _ _ (RetW (.tuple #[.int .i64 2, .int .i64 1]) w)
    go_enter Try.func21, Try.ntmps21
    go_wp2
    all_goals go_returns
    all_goals exact ⟨rfl, rfl⟩
  · show Calls _ _ _ _ (RetW (.tuple #[.int .i64 2, .int .i64 1]) w)
    go_enter Try.func21, Try.ntmps21
    go_wp2
    all_goals go_returns
    all_goals exact ⟨rfl, rfl⟩
  · show Calls _ _ _ _ (RetW (.tuple #[.int .i64 2, .int .i64 1]) w)
    go_enter Try.func21, Try.ntmps21
    go_wp2
    all_goals go_returns
    all_goals exact ⟨rfl, rfl⟩
  · show Calls _ _ _ _ (RetW (.tuple #[.int .i64 1, .int .i64 2]) w)
    go_enter Try.func21, Try.ntmps21
    go_wp2
    all_goals go_returns
    all_goals exact ⟨rfl, rfl⟩
  · show Calls _ _ _ _ (RetW (.tuple #[.int .i64 2, .int .i64 2]) w)
    go_enter Try.func21, Try.ntmps21
    go_wp2
    all_goals go_returns
    all_goals exact ⟨rfl, rfl⟩
  · show Calls _ _ _ _ (RetW (.tuple #[.int .i64 1, .int .i64 0]) w)
    go_enter Try.func21, Try.ntmps21
    go_wp2
    all_goals go_returns
    all_goals exact ⟨rfl, rfl⟩
  · show Calls _ _ _ _ (RetW (.tuple #[.int .i64 0, .int .i64 0]) w)
    go_enter Try.func21, Try.ntmps21
    go_wp2
    all_goals go_returns
    all_goals exact ⟨rfl, rfl⟩
  · show Calls _ _ _ _ (RetW (.tuple #[.int .i64 1, .int .i64 0]) w)
    go_enter Try.func21, Try.ntmps21
    go_wp2
    all_goals go_returns
    all_goals exact ⟨rfl, rfl⟩
  · show Calls _ _ _ _ (RetW (.tuple #[.int .i64 2, .int .i64 0]) w)
    go_enter Try.func21, Try.ntmps21
    go_wp2
    all_goals go_returns
    all_goals exact ⟨rfl, rfl⟩
theorem new6 (W : World) (z : Int) : R6.App (W.alloc (.cells #[.int .i64 z] 2)) (.slice (some ⟨W.heap.size, 0, none⟩) 1 1) [z] := RowKind.Row.app (ys := [z]) (RowKind.Row.new (R := R6) W z 2)
set_option maxRecDepth 100000 in
set_option maxHeartbeats 4000000 in
theorem pwork_any {B bm : Nat} {rk rv : Int} {w : World} {pc : Int} {sv ov : Value} {S : List Int} {O : List RV} (h : Mach B bm rk rv w pc sv ov S O) (op x y : Int) (h4 : 4 ≤ op) (h10 : op ≤ 10) (hx : inR x) (hy : inR y) (hlen : S.length + 1 ≤ 900000) :
    Calls Try.prog 25 #[.pointer (some ⟨bm, 0, none⟩), .int .i64 op, .int .i64 x, .int .i64 y] w (fun e w' => e = .returned (.int .i64 (ofN op x y).2) ∧ Below B w w' ∧ ((ofN op x y).2 = 0 → ∃ sv', Mach B bm rk rv w' pc sv' ov (S ++ [(ofN op x y).1]) O)) := by
  have HC := Lib.hid (preckon_any op x y h4 h10 hx hy w)
  generalize ofN op x y = res at *
  obtain ⟨z, ze⟩ := res
  have H := Lib.hid h
  have HLen := Lib.hid hlen
  show Calls _ _ _ _ (fun e w' => e = .returned (.int .i64 ze) ∧ Below B w w' ∧ (ze = 0 → ∃ sv', Mach B bm rk rv w' pc sv' ov (S ++ [z]) O))
  clear h hx hy h4 h10 hlen
  go_enter Try.func25, Try.ntmps25
  go_wp2_with fail
  refine (HC.out).mono ?_
  rintro e w1 ⟨rfl, nd, rfl⟩
  have H1 := Lib.hid (H.out.drewN nd)
  have HB1 := Lib.hid (below_drewN (Below.refl B w) nd)
  clear HC H
  generalize w.drewN nd = w1 at *
  by_cases hz : ze = 0
  · subst hz
    have HP := Lib.hid (pput_any (H1.out.alloc (.cells #[.int .i64 z] 2)) _ [z] (new6 w1 z) HLen.out)
    have HB2 := Lib.hid (HB1.out.alloc H1.out.size (.cells #[.int .i64 z] 2))
    clear H1 HB1
    go_wp2_with fail
    refine (HP.out).mono ?_
    rintro e w2 ⟨rfl, hb2, sv', hM⟩
    have HM := Lib.hid hM; have HB3 := Lib.hid (HB2.out.trans hb2)
    clear hM hb2 HP HB2
    go_wp2
    go_returns
    first | exact ⟨rfl, HB3.out, fun _ => ⟨_, HM.out⟩⟩ | exact ⟨rfl, HB3.out, ⟨_, HM.out⟩⟩
  · have hzb : (ze == 0) = false := by simpa using hz
    have HZ := Lib.hid hz
    clear hz
    go_wp2
    go_returns
    exact ⟨rfl, HB1.out, fun e => absurd e HZ.out⟩
end Go.Proofs.Ytcflfakffeglgaa
