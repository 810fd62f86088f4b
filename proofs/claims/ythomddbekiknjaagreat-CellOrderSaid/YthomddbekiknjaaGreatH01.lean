/- layer 15's law: low -/
import Derived.Test.YthomddbekiknjaaGreatG31
namespace Go.Proofs.YthomddbekiknjaaGreat
open Go.RowKit
set_option linter.unusedVariables false
set_option linter.unusedSimpArgs false

theorem lowC_no {c : List SV} {i : Nat} (hi : i < c.length) (h : ¬ (lowI (c[i]!).a ∧ lowI (c[i]!).b)) : lowC c = false := decide_eq_false fun q => h (q i hi)
theorem lowI_no {l : List IV} {k : Nat} (hk : k < l.length) (h : ¬ (-1073741824 ≤ (l[k]!).n ∧ (l[k]!).n ≤ 1073741824)) : ¬ lowI l := fun q => h (q k hk)

set_option maxRecDepth 100000 in
set_option maxHeartbeats 8000000 in
theorem low_any (c : List SV) (v : Value) (w : World) (h : IsCl w v c) (hs : shortC c = true) : Calls Tryz.prog 25 #[v] w (Ret (.bool (lowC c)) w) := by
  obtain ⟨xs, hx0, hx1⟩ := h
  have HAr := Lib.hid hx1
  obtain ⟨p, k0, rfl, ho⟩ := isOpenedD hx0
  have HO := Lib.hid ho
  have HXn : Hid (xs.length = c.length) := hx1.1
  have hs2 := of_decide_eq_true hs
  have HSh := Lib.hid hs2.2
  have hx40 : xs.length ≤ 40 := by have := HXn.out; have := hs2.1; omega
  clear hs hs2
  clear hx0 hx1 ho
  go_enter Tryz.func25, Tryz.ntmps25
  go_wp2_with fail
  go_loopg [3] xs.length (fun gg i wr => ∃ k : Nat, k ≤ xs.length ∧ xs.length - k ≤ gg ∧ i = .int .i64 (k : Int) ∧ Hid (Below w.heap.size w wr) ∧ Hid (∀ j, j < k → lowI (c[j]!).a ∧ lowI (c[j]!).b))
  case atStart => exact ⟨0, Nat.zero_le _, by omega, rfl, Below.refl _ _, fun j hj => absurd hj (Nat.not_lt_zero j)⟩
  case round =>
    obtain ⟨i, hi, hg, rfl, HB, HM⟩ := hrel
    rename World => w1
    by_cases hlt : i < xs.length
    · have hiz : (i : Int) < (xs.length : Int) := by omega
      have hic : i < c.length := by have := HXn.out; omega
      obtain ⟨b, off, rfl, hb, hrow⟩ := HO.out i hlt
      have HRow := Lib.hid (hrow.below HB.out hb)
      have HBB : Hid (b < w1.heap.size) := Nat.lt_of_lt_of_le hb HB.out.size
      have hx := (HAr.out.2 i hic).below HB.out
      have HL0 := Lib.hid hx.l0
      have HL1 := Lib.hid hx.l1
      have hn0 := hx.n0
      have hn1 := hx.n1
      have h40 : xs[i]!.n0 ≤ 40 ∧ xs[i]!.n1 ≤ 40 := by have := HSh.out i hic; rw [hn0, hn1]; exact ⟨this.1, this.2.1⟩
      have HNo : Hid (¬ (lowI (c[i]!).a ∧ lowI (c[i]!).b) → lowC c = false) := lowC_no hic
      have HYes : Hid (lowI (c[i]!).a → lowI (c[i]!).b → ∀ j, j < i + 1 → lowI (c[j]!).a ∧ lowI (c[j]!).b) := fun q r j hj => by
        by_cases e : j = i
        · subst e; exact ⟨q, r⟩
        · exact HM.out j (by omega)
      have hE5 : ∀ W : World, Below w1.heap.size w1 W → W.cell? ⟨b, off + i * 10 + 5, none⟩ = some (.slice xs[i]!.p0 xs[i]!.n0 xs[i]!.c0) := fun W hW => (atSl (HRow.out.below hW HBB.out) i hlt).2.2.2.2.2.1
      have hE6 : ∀ W : World, Below w1.heap.size w1 W → W.cell? ⟨b, off + i * 10 + 6, none⟩ = some (.slice xs[i]!.p1 xs[i]!.n1 xs[i]!.c1) := fun W hW => (atSl (HRow.out.below hW HBB.out) i hlt).2.2.2.2.2.2.1
      have HE5 := Lib.hid hE5
      have HE6 := Lib.hid hE6
      have HBw := HB
      generalize xs[i]! = x at *
      obtain ⟨xt, p0, n0, c0, p1, n1, c1, p2, n2, c2, xd, xf⟩ := x
      simp only at hn0 hn1 h40
      obtain ⟨hm0, hm1⟩ := h40
      dsimp only at HL0 HL1 HE5 HE6
      generalize (c[i]!).a = la at *
      generalize (c[i]!).b = lb at *
      clear hx hrow HM hE5 hE6
      go_wp2_with fail
      go_loopg [4] 2 (fun g2 v wr => Hid (Below w1.heap.size w1 wr) ∧ (v = .int .i64 0 ∧ 2 ≤ g2 ∨ v = .int .i64 1 ∧ 1 ≤ g2 ∧ Hid (lowI la) ∨ v = .int .i64 2 ∧ Hid (lowI la) ∧ Hid (lowI lb)))
      case atStart => exact ⟨Below.refl _ _, .inl ⟨rfl, Nat.le_refl _⟩⟩
      case round =>
        obtain ⟨HB2, hcase⟩ := hrel
        rename World => w2
        rcases hcase with ⟨rfl, hg2⟩ | ⟨rfl, hg2, HLa⟩ | ⟨rfl, HLa, HLb⟩
        · go_wp2_with fail
          go_loopg [5] n0 (fun g3 v wr => ∃ k : Nat, k ≤ n0 ∧ n0 - k ≤ g3 ∧ v = .int .i64 (k : Int) ∧ Hid (Below w1.heap.size w1 wr) ∧ Hid (∀ j, j < k → -1073741824 ≤ (la[j]!).n ∧ (la[j]!).n ≤ 1073741824))
          case atStart => exact ⟨0, Nat.zero_le _, by omega, rfl, HB2.out, fun j hj => absurd hj (Nat.not_lt_zero j)⟩
          case round =>
            obtain ⟨k, hk, hg3, rfl, HB3, HMk⟩ := hrel
            rename World => w3
            have e5 := HE5.out w3 HB3.out
            have HB1 : Hid (Below w.heap.size w w3) := bcall HB.out HB3.out HB.out.size
            by_cases hkt : k < n0
            · have hkz : (k : Int) < (n0 : Int) := by omega
              obtain ⟨pq, cq, eq1, hop⟩ := isOpenedD HL0.out
              simp only [Value.slice.injEq] at eq1
              obtain ⟨rfl, eln, rfl⟩ := eq1
              clear eln
              obtain ⟨bm, om, rfl, hbm, hrm⟩ := hop k (by rw [← hn0]; exact hkt)
              have m0 := (atI (hrm.below HB3.out hbm) k (by rw [← hn0]; exact hkt)).2.2
              have HS : Hid (-1073741824 ≤ (la[k]!).n ∧ (la[k]!).n ≤ 1073741824 → ∀ j, j < k + 1 → -1073741824 ≤ (la[j]!).n ∧ (la[j]!).n ≤ 1073741824) := fun q j hj => by
                by_cases e : j = k
                · subst e; exact q
                · exact HMk.out j (by omega)
              have HF : Hid (¬ (-1073741824 ≤ (la[k]!).n ∧ (la[k]!).n ≤ 1073741824) → lowC c = false) := fun q => HNo.out fun r => lowI_no (by rw [← hn0]; exact hkt) q r.1
              generalize (la[k]!).n = m at *
              clear hop hrm HMk HNo HYes
              by_cases h1 : 1073741824 < m
              · have d1 : decide ((1073741824 : Int) < m) = true := decide_eq_true h1
                have HR := Lib.hid (HF.out (by omega))
                clear HF HS h1
                go_wp2
                go_returns
                exact ⟨ret_bool HR.out.symm, HB1.out⟩
              · have d1 : decide ((1073741824 : Int) < m) = false := decide_eq_false h1
                by_cases h2 : m < -1073741824
                · have d2 : decide (m < (-1073741824 : Int)) = true := decide_eq_true h2
                  have HR := Lib.hid (HF.out (by omega))
                  clear HF HS h1 h2
                  go_wp2
                  go_returns
                  exact ⟨ret_bool HR.out.symm, HB1.out⟩
                · have d2 : decide (m < (-1073741824 : Int)) = false := decide_eq_false h2
                  have HY := Lib.hid (HS.out ⟨by omega, by omega⟩)
                  clear HF HS h1 h2
                  go_wp2
                  go_roundg (n0 - (k + 1))
                  case measure => omega
                  case rel => exact ⟨k + 1, by omega, by omega, by go_num, HB3.out, HY.out⟩
            · obtain rfl : k = n0 := by omega
              have HLn : Hid (lowI la) := fun j hj => HMk.out j (by rw [hn0]; exact hj)
              clear HMk HNo HYes
              go_wp2
              go_roundg (1)
              case measure => omega
              case rel => exact ⟨HB3.out, .inr (.inl ⟨rfl, Nat.le_refl _, HLn.out⟩)⟩
        · go_wp2_with fail
          go_loopg [5] n1 (fun g3 v wr => ∃ k : Nat, k ≤ n1 ∧ n1 - k ≤ g3 ∧ v = .int .i64 (k : Int) ∧ Hid (Below w1.heap.size w1 wr) ∧ Hid (∀ j, j < k → -1073741824 ≤ (lb[j]!).n ∧ (lb[j]!).n ≤ 1073741824))
          case atStart => exact ⟨0, Nat.zero_le _, by omega, rfl, HB2.out, fun j hj => absurd hj (Nat.not_lt_zero j)⟩
          case round =>
            obtain ⟨k, hk, hg3, rfl, HB3, HMk⟩ := hrel
            rename World => w3
            have e6 := HE6.out w3 HB3.out
            have HB1 : Hid (Below w.heap.size w w3) := bcall HB.out HB3.out HB.out.size
            by_cases hkt : k < n1
            · have hkz : (k : Int) < (n1 : Int) := by omega
              obtain ⟨pq, cq, eq1, hop⟩ := isOpenedD HL1.out
              simp only [Value.slice.injEq] at eq1
              obtain ⟨rfl, eln, rfl⟩ := eq1
              clear eln
              obtain ⟨bm, om, rfl, hbm, hrm⟩ := hop k (by rw [← hn1]; exact hkt)
              have m0 := (atI (hrm.below HB3.out hbm) k (by rw [← hn1]; exact hkt)).2.2
              have HS : Hid (-1073741824 ≤ (lb[k]!).n ∧ (lb[k]!).n ≤ 1073741824 → ∀ j, j < k + 1 → -1073741824 ≤ (lb[j]!).n ∧ (lb[j]!).n ≤ 1073741824) := fun q j hj => by
                by_cases e : j = k
                · subst e; exact q
                · exact HMk.out j (by omega)
              have HF : Hid (¬ (-1073741824 ≤ (lb[k]!).n ∧ (lb[k]!).n ≤ 1073741824) → lowC c = false) := fun q => HNo.out fun r => lowI_no (by rw [← hn1]; exact hkt) q r.2
              generalize (lb[k]!).n = m at *
              clear hop hrm HMk HNo HYes
              by_cases h1 : 1073741824 < m
              · have d1 : decide ((1073741824 : Int) < m) = true := decide_eq_true h1
                have HR := Lib.hid (HF.out (by omega))
                clear HF HS h1
                go_wp2
                go_returns
                exact ⟨ret_bool HR.out.symm, HB1.out⟩
              · have d1 : decide ((1073741824 : Int) < m) = false := decide_eq_false h1
                by_cases h2 : m < -1073741824
                · have d2 : decide (m < (-1073741824 : Int)) = true := decide_eq_true h2
                  have HR := Lib.hid (HF.out (by omega))
                  clear HF HS h1 h2
                  go_wp2
                  go_returns
                  exact ⟨ret_bool HR.out.symm, HB1.out⟩
                · have d2 : decide (m < (-1073741824 : Int)) = false := decide_eq_false h2
                  have HY := Lib.hid (HS.out ⟨by omega, by omega⟩)
                  clear HF HS h1 h2
                  go_wp2
                  go_roundg (n1 - (k + 1))
                  case measure => omega
                  case rel => exact ⟨k + 1, by omega, by omega, by go_num, HB3.out, HY.out⟩
            · obtain rfl : k = n1 := by omega
              have HLn : Hid (lowI lb) := fun j hj => HMk.out j (by rw [hn1]; exact hj)
              clear HMk HNo HYes
              go_wp2
              go_roundg (0)
              case measure => omega
              case rel => exact ⟨HB3.out, .inr (.inr ⟨rfl, HLa.out, HLn.out⟩)⟩
        · have HY := Lib.hid (HYes.out HLa.out HLb.out)
          have HB1 : Hid (Below w.heap.size w w2) := bcall HB.out HB2.out HB.out.size
          clear HNo HYes
          go_wp2
          go_roundg (xs.length - (i + 1))
          case measure => omega
          case rel => exact ⟨i + 1, by omega, by omega, by go_num, HB1.out, HY.out⟩
    · obtain rfl : i = xs.length := by omega
      have HR : Hid (lowC c = true) := decide_eq_true fun j hj => HM.out j (by have := HXn.out; omega)
      go_wp2
      go_returns
      exact ⟨ret_bool HR.out.symm, HB.out⟩
end Go.Proofs.YthomddbekiknjaaGreat
