/- the document's ReadUint, ReadInt: the walks -/
import Derived.Test.YtdhmoiiagplbpaaWf
import Derived.Deep.CutBlock
import Derived.Deep.CutRange
import Derived.Outline
namespace Go.Proofs.Ytdhmoiiagplbpaa
open Go.RowKit
set_option linter.unusedVariables false
set_option linter.unusedSimpArgs false

theorem horner_drop : ∀ (xs : List Int) (j : Nat), horner (xs.drop j) ≤ horner xs
  | xs, 0 => by rw [List.drop_zero]; exact Nat.le_refl _
  | [], j + 1 => by simp
  | x :: xs, j + 1 => by
    have := horner_drop xs j
    rw [List.drop_succ_cons, horner]
    omega
theorem horner_at (xs : List Int) (r k : Nat) (hr : r < xs.length) (hk : k ≤ r) : horner ((xs.take (r + 1)).drop k) = xs[k]!.toNat % 128 + 128 * horner ((xs.take (r + 1)).drop (k + 1)) := by
  have hl : k < (xs.take (r + 1)).length := by rw [List.length_take]; omega
  rw [horner_take _ _ hl, getElem!_pos (xs.take (r + 1)) k hl, getElem!_pos xs k (by omega), List.getElem_take]
set_option maxRecDepth 100000 in
set_option maxHeartbeats 4000000 in
theorem rreadU_row (xs : List Int) (b off cap : Nat) (w : World) (hl : xs.length ≤ 900000) (hx : okB xs) (hb : b < w.heap.size) (hr : RB.Row w b off xs) :
    Calls Try.prog 51 #[.slice (some ⟨b, off, none⟩) xs.length cap] w (RetW (RdV (readU xs)) w) := by
  have HRow := Lib.hid (fun j hj => atB hr j hj)
  clear hr
  have HBy := Lib.hid (fun j (hj : j < xs.length) => hx xs[j]! (by rw [getElem!_pos xs j hj]; exact List.getElem_mem hj))
  have hS := scan_run 9 xs 0 0 hx rfl
  have hLt := read_lt hx
  have HStep := Lib.hid (run_step 9 xs)
  have hRun := run_le 9 xs
  have HHor := Lib.hid (horner_at xs (runB 9 xs))
  have HDrop := Lib.hid (fun j => horner_drop (xs.take (runB 9 xs + 1)) j)
  have hDl : (xs.take (runB 9 xs + 1)).drop (runB 9 xs + 1) = [] := by
    rw [List.drop_eq_nil_iff, List.length_take]; omega
  rw [show scan xs 0 0 = readU xs from rfl] at hS
  generalize readU xs = res at *
  generalize runB 9 xs = r at *
  simp only [Nat.zero_add, Nat.mul_zero, Nat.pow_zero, Nat.mul_one] at hS
  have HS := Lib.hid hS; have HLt := Lib.hid hLt; have HDl := Lib.hid hDl
  clear hS hLt hDl
  obtain ⟨hrn, hr9⟩ := hRun
  generalize hn : xs.length = n at *
  have HN := Lib.hid hn
  clear hn
  go_enter Try.func51, Try.ntmps51
  go_upto_block 0 with (fail)
  go_cut [5] from 8 to 24 (fun v wx => v = .int .i64 (r : Int) ∧ w = wx)
  case first =>
    go_wp2_with fail
    go_loopg [5] n (fun gg i wr => ∃ k : Nat, k ≤ n ∧ k ≤ 9 ∧ n - k ≤ gg ∧ i = .int .i64 k ∧ wr = w ∧ Hid (∀ j, j < k → 127 < xs[j]!))
    case atStart => exact ⟨0, Nat.zero_le _, by omega, by omega, rfl, rfl, fun j hj => absurd hj (by omega)⟩
    case round =>
      obtain ⟨k, hkn, hk9, hg, rfl, rfl, HC⟩ := hrel
      by_cases hgo : k < n ∧ k < 9 ∧ 127 < xs[k]!
      · obtain ⟨hlt, hlt9, hx9⟩ := hgo
        have hlz : (k : Int) < (n : Int) := by omega
        have hlz9 : (k : Int) < 9 := by omega
        have hc := HRow.out k hlt
        have HC2 : Hid (∀ j, j < k + 1 → 127 < xs[j]!) := fun j hj => by
          by_cases e : j = k
          · subst e; exact hx9
          · exact HC.out j (by omega)
        generalize xs[k]! = x at hc hx9
        clear HC
        go_wp2
        go_roundg (n - (k + 1))
        case measure => omega
        case rel => exact ⟨k + 1, by omega, by omega, by omega, by go_num, rfl, HC2.out⟩
      · have hk : r = k := HStep.out k HC.out hk9 hkn (by omega)
        subst hk
        have hc := fun (h : r < n) => HRow.out r h
        generalize xs[r]! = x at hc hgo
        by_cases h1 : r < n
        · have hc := hc h1
          have hlz : (r : Int) < (n : Int) := by omega
          by_cases h2 : r < 9
          · have h3 : ¬ 127 < x := by omega
            have hlz9 : (r : Int) < 9 := by omega
            clear hgo HC
            go_wp2_with fail
            all_goals (go_meet; exact ⟨rfl, rfl⟩)
          · have hlz9 : ¬ (r : Int) < 9 := by omega
            clear hgo HC
            go_wp2_with fail
            all_goals (go_meet; exact ⟨rfl, rfl⟩)
        · have hlz : ¬ (r : Int) < (n : Int) := by omega
          clear hgo HC hc
          go_wp2_with fail
          all_goals (go_meet; exact ⟨rfl, rfl⟩)
  case rest =>
    obtain ⟨rfl, rfl⟩ := hcut
    clear HStep
    by_cases h1 : r = n
    · have hq := HS.out
      rw [if_pos h1] at hq
      have HQ := Lib.hid hq
      have hb0 : ((r : Int) == (n : Int)) = true := by simp; omega
      clear hq HS HHor HDrop HDl HRow HBy HLt
      go_wp2
      all_goals go_returns
      all_goals exact ⟨by rw [HQ.out]; rfl, rfl⟩
    · have hq := HS.out
      rw [if_neg h1] at hq
      have hb0 : ((r : Int) == (n : Int)) = false := by simp; omega
      have hrlt : r < n := by omega
      have hlz : (r : Int) < (n : Int) := by omega
      have hc := HRow.out r hrlt
      obtain ⟨hy0, hy1⟩ := HBy.out r hrlt
      have hc9 : r = 9 → w.cell? ⟨b, off + 9, none⟩ = some (.int .u8 xs[r]!) := fun e => by rw [← e]; exact hc
      generalize xs[r]! = y at hq hc hc9 hy0 hy1
      by_cases hw : (r = 9 ∧ 1 < y) ∨ (0 < r ∧ y = 0)
      · rw [if_pos hw] at hq
        have HQ := Lib.hid hq
        clear hq HS HHor HDrop HDl HRow HBy HLt
        by_cases h9 : r = 9
        · subst h9
          have hc9 := hc9 rfl
          clear hc
          have hlz9 : (9 : Int) < (n : Int) := by omega
          by_cases hy : 1 < y
          · go_wp2
            all_goals go_returns
            all_goals exact ⟨by rw [HQ.out]; rfl, rfl⟩
          · obtain rfl : y = 0 := by omega
            go_wp2
            all_goals go_returns
            all_goals exact ⟨by rw [HQ.out]; rfl, rfl⟩
        · clear hc9
          have h9b : ((r : Int) == 9) = false := by simp; omega
          have hr0 : (r : Int) > 0 := by omega
          have hy : y = 0 := by omega
          subst hy
          go_wp2
          all_goals go_returns
          all_goals exact ⟨by rw [HQ.out]; rfl, rfl⟩
      · rw [if_neg hw] at hq
        have HQ := Lib.hid hq
        have hlt := HLt.out
        rw [hq] at hlt
        have hlt2 : horner (xs.take (r + 1)) < 18446744073709551616 := hlt
        have HL2 := Lib.hid hlt2
        clear hq hlt hlt2 HLt HS
        go_upto_region 6 with (fail)
        go_cut [47] from 29 to 47 (fun v wx => v = .bool false ∧ w = wx)
        case first =>
          clear HHor HDrop HDl HRow HBy HQ HL2
          by_cases h9 : r = 9
          · subst h9
            have hc9 := hc9 rfl
            have hlz9 : (9 : Int) < (n : Int) := by omega
            obtain rfl : y = 1 := by omega
            go_wp2_with fail
            all_goals (go_meet; exact ⟨rfl, rfl⟩)
          · clear hc9
            have h9b : ((r : Int) == 9) = false := by simp; omega
            by_cases hr0 : 0 < r
            · have hr0i : (r : Int) > 0 := by omega
              have hyb : (y == 0) = false := by simp; omega
              go_wp2_with fail
              all_goals (go_meet; exact ⟨rfl, rfl⟩)
            · have hr0i : ¬ (r : Int) > 0 := by omega
              go_wp2_with fail
              all_goals (go_meet; exact ⟨rfl, rfl⟩)
        case rest =>
          obtain ⟨rfl, rfl⟩ := hcut
          clear hc hc9 hy0 hy1 hw
          go_wp2_with fail
          go_loopg [6, 7] (r + 1) (fun gg acc i wr => ((∃ k : Nat, i = .int .i64 (k : Int) ∧ k ≤ r ∧ k + 1 ≤ gg ∧ acc = .int .u64 (horner ((xs.take (r + 1)).drop (k + 1)) : Nat)) ∨ (i = .int .i64 (-1) ∧ acc = .int .u64 (horner (xs.take (r + 1)) : Nat))) ∧ w = wr)
          case atStart => exact ⟨.inl ⟨r, rfl, Nat.le_refl _, Nat.le_refl _, by rw [HDl.out]; rfl⟩, rfl⟩
          case round =>
            obtain ⟨hrel, rfl⟩ := hrel
            rcases hrel with ⟨k, rfl, hkr, hg, rfl⟩ | ⟨rfl, rfl⟩
            · have hkn : k < n := by omega
              have hlzk : (k : Int) < (n : Int) := by omega
              have hk0 : (k : Int) ≥ 0 := by omega
              have hc := HRow.out k hkn
              obtain ⟨hx0, hx1⟩ := HBy.out k hkn
              have hh := HHor.out k hrlt hkr
              have hd := Nat.lt_of_le_of_lt (HDrop.out k) HL2.out
              have hd0 : horner ((xs.take (r + 1)).drop 0) = horner (xs.take (r + 1)) := by rw [List.drop_zero]
              rw [hh] at hd
              generalize xs[k]! = x at *
              have HH := Lib.hid hh; have HD0 := Lib.hid hd0
              clear hh hd0 HRow HBy HHor HDrop HDl HQ
              generalize hA : horner ((xs.take (r + 1)).drop (k + 1)) = A at *
              have hA' := Lib.hid hA
              clear hA
              cases k with
              | zero =>
                simp only [Nat.add_zero] at hc
                go_wp2
                go_roundg 0
                case measure => omega
                case rel =>
                  refine ⟨.inr ⟨by go_num, ?_⟩, rfl⟩
                  rw [← HD0.out, HH.out]
                  first | (congr 1; omega) | (simp only [IntKind.wrap_u64]; congr 1; omega)
              | succ k =>
                go_wp2
                go_roundg (k + 1)
                case measure => omega
                case rel =>
                  refine ⟨.inl ⟨k, ?_, by omega, Nat.le_refl _, ?_⟩, rfl⟩
                  · first | go_num | (congr 1; omega)
                  rw [HH.out]
                  first | (congr 1; omega) | (simp only [IntKind.wrap_u64]; congr 1; omega)
            · clear HRow HBy HHor HDrop HDl
              go_wp2
              go_returns
              refine ⟨rdV_ext ?_ ?_ ?_, rfl⟩ <;> (rw [HQ.out]; try dsimp only)
              all_goals omega
set_option maxHeartbeats 2000000 in
theorem rreadU_nil (p : Option Addr) (cap : Nat) (w : World) : Calls Try.prog 51 #[.slice p 0 cap] w (RetW (RdV (readU [])) w) := by
  have h : readU [] = (0, 0, 3) := rfl
  rw [h]
  go_enter Try.func51, Try.ntmps51
  go_wp2
  refine wp_loop_rounds 1 ?_
  rw [rounds_succ]
  go_wp2
  go_returns
  exact ⟨rfl, rfl⟩
theorem rreadU_any (xs : List Int) (v : Value) (w : World) (hl : xs.length ≤ 900000) (hx : okB xs) (h : RB.Is w v xs) : Calls Try.prog 51 #[v] w (RetW (RdV (readU xs)) w) := by
  rcases h with ⟨rfl, p, cap, rfl, _⟩ | ⟨h0, b, off, cap, rfl, hb, hr⟩
  · exact rreadU_nil p cap w
  · exact rreadU_row xs b off cap w hl hx hb hr
set_option maxRecDepth 100000 in
set_option maxHeartbeats 4000000 in
theorem rreadI_w (xs : List Int) (v : Value) (w : World) (hl : xs.length ≤ 900000) (hx : okB xs) (h : RB.Is w v xs) : Calls Try.prog 52 #[v] w (RetW (RdI (readU xs)) w) := by
  have HU := Lib.hid (rreadU_any xs v w hl hx h)
  have hlt := read_lt hx
  obtain ⟨p, c, rfl⟩ := h.slice
  clear h
  generalize xs.length = n at *
  generalize readU xs = r at *
  obtain ⟨y, s, e⟩ := r
  have hlt : y < 18446744073709551616 := hlt
  have h1 : y % 2 = 1 → zag y = -((y / 2 : Nat) : Int) - 1 := fun h => by unfold zag; rw [if_pos h]
  have h2 : ¬ y % 2 = 1 → zag y = ((y / 2 : Nat) : Int) := fun h => by unfold zag; rw [if_neg h]
  have he : ∀ {a : Int}, a = zag y → Ending.returned (.tuple #[.int .i64 a, .int .i64 (s : Int), .int .i64 (e : Int)]) = .returned (RdI (y, s, e)) := fun h => by rw [h]
  generalize zag y = z at *
  go_enter Try.func52, Try.ntmps52
  go_wp2_with fail
  refine (HU.out).mono ?_
  rintro ee w1 ⟨rfl, rfl⟩
  by_cases hy : y % 2 = 1
  · have ez := h1 hy
    have hyb : ((y : Int) % 2 == 1) = true := by simp; omega
    clear h1 h2
    go_wp2
    all_goals go_returns
    all_goals refine ⟨he ?_, rfl⟩
    all_goals (first | omega | (simp only [IntKind.wrap_i64]; omega))
  · have ez := h2 hy
    have hyb : ((y : Int) % 2 == 1) = false := by simp; omega
    clear h1 h2
    go_wp2
    all_goals go_returns
    all_goals refine ⟨he ?_, rfl⟩
    all_goals (first | omega | (simp only [IntKind.wrap_i64]; omega))
theorem rreadI_any (xs : List Int) (v : Value) (w : World) (hl : xs.length ≤ 900000) (hx : okB xs) (h : RB.Is w v xs) : Calls Try.prog 52 #[v] w (Ret (RdI (readU xs)) w) :=
  (rreadI_w xs v w hl hx h).mono fun e w' q => by
    obtain ⟨q1, rfl⟩ := q
    exact ⟨q1, Below.refl _ _⟩
end Go.Proofs.Ytdhmoiiagplbpaa
