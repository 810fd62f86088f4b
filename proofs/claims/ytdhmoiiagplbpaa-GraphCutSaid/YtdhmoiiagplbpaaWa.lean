/- bytes: rows of them (RB); the bytes of a number (bytesOf), and what is read from bytes (readU); plain facts of both -/
import Derived.Test.YtdhmoiiagplbpaaRow
namespace Go.Proofs.Ytdhmoiiagplbpaa
open Go.RowKit
set_option linter.unusedVariables false
set_option linter.unusedSimpArgs false

def RB : RowKind Int where
  enc := fun x => [.int .u8 x]
  k := 1
  k0 := by decide
  len := fun _ => rfl
  one := by
    intro c u hu
    simp at hu
    subst hu
    rfl
  tE := 5
  tS := 29
  zero := .int .u8 0
  bytes := 1
  info := by kernel_rfl
  under := Try.underlying29
  zlen := rfl
  byt := by decide
theorem atB {w : World} {b off : Nat} {xs : List Int} (h : RB.Row w b off xs) (j : Nat) (hj : j < xs.length) : w.cell? ⟨b, off + j, none⟩ = some (.int .u8 xs[j]!) := by
  have := h j hj 0 _ rfl
  rw [show off + j * RB.k + 0 = off + j from by show off + j * 1 + 0 = _; omega] at this
  exact this
theorem ownCapB {B : Nat} {w : World} {v : Value} {xs : List Int} (h : RB.Own B w v xs) : capOk v := by
  obtain ⟨_, ⟨rfl, _⟩ | ⟨g, cap, cur, rfl, _, _, hle, _⟩⟩ := h
  · intro p n c e; cases e; exact Nat.le_refl _
  · intro p n c e; cases e; exact hle
/-- all are bytes -/
def okB (xs : List Int) : Prop := ∀ x ∈ xs, 0 ≤ x ∧ x < 256

/-- the bytes of a number -/
def bytesOf (n : Nat) : List Int := if n < 128 then [(n : Int)] else ((n % 128 + 128 : Nat) : Int) :: bytesOf (n / 128)
termination_by n
decreasing_by omega
theorem bytes_lo {n : Nat} (h : n < 128) : bytesOf n = [(n : Int)] := by rw [bytesOf, if_pos h]
theorem bytes_hi {n : Nat} (h : ¬ n < 128) : bytesOf n = ((n % 128 + 128 : Nat) : Int) :: bytesOf (n / 128) := by rw [bytesOf, if_neg h]
theorem bytes_ok : ∀ n : Nat, okB (bytesOf n) := by
  intro n
  induction n using Nat.strongRecOn with
  | _ n ih =>
    by_cases h : n < 128
    · rw [bytes_lo h]
      intro x hx
      simp at hx
      omega
    · rw [bytes_hi h]
      intro x hx
      rcases List.mem_cons.1 hx with rfl | hx
      · omega
      · exact ih (n / 128) (by omega) x hx
/-- how many there are -/
theorem bytes_le : ∀ (k n : Nat), n < 128 ^ (k + 1) → (bytesOf n).length ≤ k + 1
  | 0, n, h => by rw [bytes_lo (by omega)]; simp
  | k + 1, n, h => by
    by_cases h1 : n < 128
    · rw [bytes_lo h1]; simp
    · rw [bytes_hi h1, List.length_cons]
      have := bytes_le k (n / 128) (by rw [Nat.pow_succ] at h; exact Nat.div_lt_of_lt_mul (by rw [Nat.mul_comm]; exact h))
      omega
theorem bytes_len10 {n : Nat} (h : n < 18446744073709551616) : (bytesOf n).length ≤ 10 := bytes_le 9 n (Nat.lt_trans h (by decide))
theorem bytes_pos (n : Nat) : 1 ≤ (bytesOf n).length := by
  by_cases h : n < 128
  · rw [bytes_lo h]; simp
  · rw [bytes_hi h]; simp
theorem bytes_mono : ∀ (m n : Nat), n ≤ m → (bytesOf n).length ≤ (bytesOf m).length := by
  intro m
  induction m using Nat.strongRecOn with
  | _ m ih =>
    intro n h
    by_cases h1 : n < 128
    · rw [bytes_lo h1]
      exact bytes_pos m
    · rw [bytes_hi h1, bytes_hi (n := m) (by omega), List.length_cons, List.length_cons]
      have := ih (m / 128) (by omega) (n / 128) (by omega)
      omega
/-- how many more than one -/
def more (x : Nat) : Nat := if x = 0 then 0 else more (x / 128) + 1
termination_by x
decreasing_by omega
theorem more_zero : more 0 = 0 := by rw [more, if_pos rfl]
theorem more_pos {x : Nat} (h : 0 < x) : more x = more (x / 128) + 1 := by rw [more, if_neg (by omega)]
theorem more_is (x : Nat) (h : 0 < x) : (bytesOf x).length = more x := by
  induction x using Nat.strongRecOn with
  | _ x ih =>
    rw [more_pos h]
    by_cases h1 : x < 128
    · rw [bytes_lo h1, show x / 128 = 0 from by omega, more_zero]; rfl
    · rw [bytes_hi h1, List.length_cons, ih (x / 128) (by omega) (by omega)]
theorem bytes_more (n : Nat) : (bytesOf n).length = 1 + more (n / 128) := by
  by_cases h : n < 128
  · rw [bytes_lo h, show n / 128 = 0 from by omega, more_zero]; rfl
  · rw [bytes_hi h, List.length_cons, more_is _ (by omega)]; omega

/-- what is read: number, how many bytes, error -/
def scan : List Int → Nat → Nat → Nat × Nat × Nat
  | [], _, _ => (0, 0, 3)
  | x :: xs, i, n =>
    if (i = 9 ∧ 1 < x) ∨ (0 < i ∧ x = 0) then (0, 0, 4)
    else if x < 128 then (n + x.toNat * 2 ^ (7 * i), i + 1, 0)
    else scan xs (i + 1) (n + (x.toNat % 128) * 2 ^ (7 * i))
def readU (xs : List Int) : Nat × Nat × Nat := scan xs 0 0

theorem pow7 (i : Nat) : 2 ^ (7 * (i + 1)) = 128 * 2 ^ (7 * i) := by rw [Nat.mul_add, Nat.pow_add, Nat.mul_comm]
theorem pow64 {i : Nat} (h : i ≤ 8) : 2 ^ (64 - 7 * i) = 128 * 2 ^ (64 - 7 * (i + 1)) := by
  rw [show 64 - 7 * i = 7 + (64 - 7 * (i + 1)) from by omega, Nat.pow_add]
theorem scan_put (b : List Int) : ∀ (n i m : Nat), i ≤ 9 → n < 2 ^ (64 - 7 * i) → (0 < i → 0 < n) → scan (bytesOf n ++ b) i m = (m + n * 2 ^ (7 * i), i + (bytesOf n).length, 0) := by
  intro n
  induction n using Nat.strongRecOn with
  | _ n ih =>
    intro i m hi hn h0
    by_cases h : n < 128
    · rw [bytes_lo h]
      simp only [List.cons_append, List.nil_append, scan]
      rw [if_neg, if_pos (by omega)]
      · simp
      · rintro (⟨rfl, h2⟩ | ⟨h2, h3⟩)
        · have : n < 2 := hn
          omega
        · have := h0 h2
          omega
    · have h8 : i ≤ 8 := by
        rcases Nat.lt_or_ge i 9 with h9 | h9
        · omega
        · have : i = 9 := by omega
          subst this
          have : n < 2 := hn
          omega
      rw [bytes_hi h, List.cons_append, scan, if_neg (by omega), if_neg (by omega)]
      have hn2 : n / 128 < 2 ^ (64 - 7 * (i + 1)) := by
        rw [pow64 h8] at hn
        exact Nat.div_lt_of_lt_mul hn
      rw [ih (n / 128) (by omega) (i + 1) _ (by omega) hn2 (by omega)]
      refine Prod.ext ?_ (Prod.ext ?_ rfl)
      · show m + ((n % 128 + 128 : Nat) : Int).toNat % 128 * 2 ^ (7 * i) + n / 128 * 2 ^ (7 * (i + 1)) = m + n * 2 ^ (7 * i)
        rw [pow7, Int.toNat_natCast, show (n % 128 + 128) % 128 = n % 128 from by omega, ← Nat.mul_assoc, Nat.add_assoc, ← Nat.add_mul, show n % 128 + n / 128 * 128 = n from by omega]
      · show i + 1 + (bytesOf (n / 128)).length = i + (_ :: bytesOf (n / 128)).length
        rw [List.length_cons]; omega
theorem read_put (n : Nat) (b : List Int) (hn : n < 18446744073709551616) : readU (bytesOf n ++ b) = (n, (bytesOf n).length, 0) := by
  have := scan_put b n 0 0 (by omega) hn (by omega)
  unfold readU
  rw [this]
  simp
theorem scan_short : ∀ (n i m j : Nat), i ≤ 9 → n < 2 ^ (64 - 7 * i) → j < (bytesOf n).length → scan ((bytesOf n).take j) i m = (0, 0, 3) := by
  intro n
  induction n using Nat.strongRecOn with
  | _ n ih =>
    intro i m j hi hn hj
    cases j with
    | zero => rfl
    | succ j =>
      by_cases h : n < 128
      · rw [bytes_lo h] at hj
        simp at hj
      · have h8 : i ≤ 8 := by
          rcases Nat.lt_or_ge i 9 with h9 | h9
          · omega
          · have : i = 9 := by omega
            subst this
            have : n < 2 := hn
            omega
        have hn2 : n / 128 < 2 ^ (64 - 7 * (i + 1)) := by
          rw [pow64 h8] at hn
          exact Nat.div_lt_of_lt_mul hn
        rw [bytes_hi h, List.length_cons] at hj
        rw [bytes_hi h, List.take_succ_cons, scan, if_neg (by omega), if_neg (by omega)]
        exact ih (n / 128) (by omega) (i + 1) _ j (by omega) hn2 (by omega)
theorem read_short (n j : Nat) (hn : n < 18446744073709551616) (hj : j < (bytesOf n).length) : readU ((bytesOf n).take j) = (0, 0, 3) := scan_short n 0 0 j (by omega) hn hj
theorem scan_ok : ∀ (xs : List Int) (i m y s : Nat), i ≤ 9 → okB xs → scan xs i m = (y, s, 0) → ∃ k z, 1 ≤ k ∧ k ≤ xs.length ∧ s = i + k ∧ y = m + z * 2 ^ (7 * i) ∧ bytesOf z = xs.take k ∧ z < 2 ^ (64 - 7 * i) ∧ (0 < i → 0 < z)
  | [], i, m, y, s, hi, hx, h => by simp [scan] at h
  | x :: xs, i, m, y, s, hi, hx, h => by
    have hb := hx x (by simp)
    rw [scan] at h
    by_cases h1 : (i = 9 ∧ 1 < x) ∨ (0 < i ∧ x = 0)
    · rw [if_pos h1] at h
      simp at h
    · rw [if_neg h1] at h
      by_cases h2 : x < 128
      · rw [if_pos h2] at h
        simp only [Prod.mk.injEq] at h
        have hz : x.toNat < 2 ^ (64 - 7 * i) := by
          rcases Nat.lt_or_ge i 9 with h9 | h9
          · have : 2 ^ (64 - 7 * 8) ≤ 2 ^ (64 - 7 * i) := Nat.pow_le_pow_right (by decide) (by omega)
            have : (2 : Nat) ^ (64 - 7 * 8) = 256 := by decide
            omega
          · have : i = 9 := by omega
            subst this
            show x.toNat < 2
            omega
        refine ⟨1, x.toNat, by omega, by simp, h.2.1.symm, h.1.symm, ?_, hz, by omega⟩
        rw [bytes_lo (by omega)]
        simp
        omega
      · rw [if_neg h2] at h
        have h8 : i ≤ 8 := by omega
        obtain ⟨k, z, g1, g2, g3, g4, g5, g6, g7⟩ := scan_ok xs (i + 1) _ y s (by omega) (fun u hu => hx u (by simp [hu])) h
        have g7 := g7 (by omega)
        have hd : (x.toNat % 128 + 128 * z) / 128 = z := by omega
        have hmod : (x.toNat % 128 + 128 * z) % 128 = x.toNat % 128 := by omega
        refine ⟨k + 1, x.toNat % 128 + 128 * z, by omega, by simp; omega, by omega, ?_, ?_, ?_, by omega⟩
        · rw [g4, pow7, Nat.add_mul, Nat.add_assoc, ← Nat.mul_assoc, Nat.mul_comm z 128]
        · rw [bytes_hi (by omega), hd, hmod, g5, List.take_succ_cons]
          congr 1
          omega
        · rw [pow64 h8]
          omega
theorem read_ok {xs : List Int} {y s : Nat} (hx : okB xs) (h : readU xs = (y, s, 0)) : 1 ≤ s ∧ s ≤ xs.length ∧ bytesOf y = xs.take s ∧ y < 18446744073709551616 := by
  obtain ⟨k, z, g1, g2, g3, g4, g5, g6, _⟩ := scan_ok xs 0 0 y s (by omega) hx h
  have e1 : y = z := by rw [g4]; simp
  have e2 : s = k := by omega
  subst e1; subst e2
  exact ⟨g1, g2, g5, g6⟩
/-- what is read is an error of the two, or a number -/
theorem scan_err : ∀ (xs : List Int) (i m : Nat), (scan xs i m).2.2 = 0 ∨ scan xs i m = (0, 0, 3) ∨ scan xs i m = (0, 0, 4)
  | [], i, m => by simp [scan]
  | x :: xs, i, m => by
    rw [scan]
    split
    · simp
    · split
      · simp
      · exact scan_err xs _ _
theorem read_cases {xs : List Int} (hx : okB xs) : (∃ y s, readU xs = (y, s, 0) ∧ 1 ≤ s ∧ s ≤ xs.length ∧ bytesOf y = xs.take s ∧ y < 18446744073709551616) ∨ readU xs = (0, 0, 3) ∨ readU xs = (0, 0, 4) := by
  rcases scan_err xs 0 0 with h | h | h
  · left
    generalize hr : readU xs = r
    obtain ⟨y, s, e⟩ := r
    have he : e = 0 := by
      have : (readU xs).2.2 = 0 := h
      rw [hr] at this
      exact this
    subst he
    have := read_ok hx hr
    exact ⟨y, s, rfl, this.1, this.2.1, this.2.2.1, this.2.2.2⟩
  · exact .inr (.inl h)
  · exact .inr (.inr h)

/-- a number with a sign, as one without -/
def zig (k : Int) : Nat := if k < 0 then (-2 * k - 1).toNat else (2 * k).toNat
def zag (n : Nat) : Int := if n % 2 = 1 then -((n / 2 : Nat) : Int) - 1 else ((n / 2 : Nat) : Int)
theorem zag_zig (k : Int) : zag (zig k) = k := by
  unfold zag zig
  by_cases h : k < 0
  · rw [if_pos h, if_pos (by omega)]; omega
  · rw [if_neg h, if_neg (by omega)]; omega
theorem zig_lt {k : Int} (h : -9223372036854775808 ≤ k) (h2 : k ≤ 9223372036854775807) : zig k < 18446744073709551616 := by
  unfold zig
  split <;> omega
theorem zig_one {k : Int} (h : -128 ≤ k) (h2 : k ≤ 127) : ((bytesOf (zig k)).length = 1 ↔ -64 ≤ k ∧ k < 64) ∧ 1 ≤ (bytesOf (zig k)).length ∧ (bytesOf (zig k)).length ≤ 2 := by
  have hz : zig k < 256 := by unfold zig; split <;> omega
  refine ⟨?_, bytes_pos _, bytes_le 1 _ (by omega)⟩
  by_cases h1 : zig k < 128
  · rw [bytes_lo h1]
    simp only [List.length_cons, List.length_nil, true_iff]
    unfold zig at h1
    split at h1 <;> omega
  · rw [bytes_hi h1, List.length_cons]
    have := bytes_pos (zig k / 128)
    unfold zig at h1
    constructor
    · intro h; omega
    · intro h; exfalso; split at h1 <;> omega
end Go.Proofs.Ytdhmoiiagplbpaa
