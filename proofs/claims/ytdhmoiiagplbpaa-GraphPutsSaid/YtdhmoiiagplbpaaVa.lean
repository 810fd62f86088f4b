/- readers of bytes (Codec): what is put is read, what is read was put, what is cut is too short; numbers, pairs, lists -/
import Derived.Test.YtdhmoiiagplbpaaWa
import Derived.Test.YtdhmoiiagplbpaaQ0
namespace Go.Proofs.Ytdhmoiiagplbpaa
open Go.RowKit
set_option linter.unusedVariables false
set_option linter.unusedSimpArgs false

abbrev Rd (α : Type) := Except Nat (α × List Int)
structure Codec {α : Type} (f : List Int → Rd α) (p : α → List Int) (V : α → Prop) : Prop where
  okb : ∀ a, V a → okB (p a)
  put : ∀ a rest, V a → f (p a ++ rest) = .ok (a, rest)
  get : ∀ xs a rest, okB xs → f xs = .ok (a, rest) → V a ∧ xs = p a ++ rest
  cut : ∀ a j, V a → j < (p a).length → f ((p a).take j) = .error 3
theorem okB_app {xs ys : List Int} : okB (xs ++ ys) ↔ okB xs ∧ okB ys := by
  unfold okB
  constructor
  · intro h
    exact ⟨fun x hx => h x (List.mem_append_left _ hx), fun x hx => h x (List.mem_append_right _ hx)⟩
  · rintro ⟨h1, h2⟩ x hx
    exact (List.mem_append.1 hx).elim (h1 x) (h2 x)
theorem okB_drop {xs : List Int} (h : okB xs) (k : Nat) : okB (xs.drop k) := fun x hx => h x (List.mem_of_mem_drop hx)
theorem okB_take {xs : List Int} (h : okB xs) (k : Nat) : okB (xs.take k) := fun x hx => h x (List.mem_of_mem_take hx)

def numR (least most bad : Nat) (xs : List Int) : Rd Nat :=
  if (readU xs).2.2 = 0 then (if least ≤ (readU xs).1 ∧ (readU xs).1 ≤ most then .ok ((readU xs).1, xs.drop (readU xs).2.1) else .error bad) else .error (readU xs).2.2
def sgnR (xs : List Int) : Rd Int := if (readU xs).2.2 = 0 then .ok (zag (readU xs).1, xs.drop (readU xs).2.1) else .error (readU xs).2.2
def pairR {α β : Type} (f : List Int → Rd α) (g : List Int → Rd β) (xs : List Int) : Rd (α × β) :=
  match f xs with
  | .error e => .error e
  | .ok (a, r) => match g r with
    | .error e => .error e
    | .ok (b, r2) => .ok ((a, b), r2)
def manyR {α : Type} (f : List Int → Rd α) : Nat → List Int → Rd (List α)
  | 0, xs => .ok ([], xs)
  | k + 1, xs => match f xs with
    | .error e => .error e
    | .ok (a, r) => match manyR f k r with
      | .error e => .error e
      | .ok (l, r2) => .ok (a :: l, r2)
def mapR {α β : Type} (t : α → β) (f : List Int → Rd α) (xs : List Int) : Rd β :=
  match f xs with
  | .error e => .error e
  | .ok (a, r) => .ok (t a, r)
def countR {α : Type} (least most sub : Nat) (f : List Int → Rd α) (xs : List Int) : Rd (List α) :=
  match numR least most 11 xs with
  | .error e => .error e
  | .ok (n, r) => manyR f (n - sub) r

theorem bytes_inj {n m : Nat} (hn : n < 18446744073709551616) (hm : m < 18446744073709551616) (h : bytesOf n = bytesOf m) : n = m := by
  have h1 := read_put n [] hn
  have h2 := read_put m [] hm
  rw [h] at h1
  exact (Prod.mk.inj (h1.symm.trans h2)).1
theorem codec_num (least most bad : Nat) (hm : most < 18446744073709551616) : Codec (numR least most bad) bytesOf (fun n => least ≤ n ∧ n ≤ most) where
  okb := fun a _ => bytes_ok a
  put := fun a rest h => by
    unfold numR
    rw [read_put a rest (by omega)]
    simp only [if_true]
    rw [if_pos h, List.drop_left]
  get := fun xs a rest hx h => by
    unfold numR at h
    rcases read_cases hx with ⟨y, s, hr, h1, h2, h3, h4⟩ | hr | hr
    · rw [hr] at h
      simp only [if_true] at h
      split at h
      · rename_i hq
        injection h with h
        obtain ⟨rfl, rfl⟩ := Prod.mk.inj h
        exact ⟨hq, by rw [h3, List.take_append_drop]⟩
      · cases h
    · rw [hr] at h; simp at h
    · rw [hr] at h; simp at h
  cut := fun a j h hj => by
    unfold numR
    rw [read_short a j (by omega) hj]
    rfl
theorem zig_zag (n : Nat) : zig (zag n) = n := by
  unfold zig zag
  by_cases h : n % 2 = 1
  · rw [if_pos h, if_pos (by omega)]; omega
  · rw [if_neg h, if_neg (by omega)]; omega
theorem zag_in {n : Nat} (h : n < 18446744073709551616) : inR (zag n) := by
  unfold inR zag
  split <;> omega
theorem codec_sgn : Codec sgnR (fun k => bytesOf (zig k)) inR where
  okb := fun a _ => bytes_ok _
  put := fun a rest h => by
    unfold sgnR
    rw [read_put _ rest (zig_lt h.1 h.2)]
    simp only [if_true]
    rw [List.drop_left, zag_zig]
  get := fun xs a rest hx h => by
    unfold sgnR at h
    rcases read_cases hx with ⟨y, s, hr, h1, h2, h3, h4⟩ | hr | hr
    · rw [hr] at h
      simp only [if_true] at h
      injection h with h
      obtain ⟨rfl, rfl⟩ := Prod.mk.inj h
      exact ⟨zag_in h4, by rw [zig_zag, h3, List.take_append_drop]⟩
    · rw [hr] at h; simp at h
    · rw [hr] at h; simp at h
  cut := fun a j h hj => by
    unfold sgnR
    rw [read_short _ j (zig_lt h.1 h.2) hj]
    rfl
theorem take_app_lt {xs ys : List Int} {j : Nat} (h : j < xs.length) : (xs ++ ys).take j = xs.take j := by rw [List.take_append_of_le_length (by omega)]
theorem take_app_ge {xs ys : List Int} {j : Nat} (h : ¬ j < xs.length) : (xs ++ ys).take j = xs ++ ys.take (j - xs.length) := by
  rw [List.take_append, List.take_of_length_le (by omega)]
section
variable {α β : Type} {f : List Int → Rd α} {g : List Int → Rd β} {p : α → List Int} {q : β → List Int} {V : α → Prop} {U : β → Prop}
theorem Codec.pair (F : Codec f p V) (G : Codec g q U) : Codec (pairR f g) (fun x => p x.1 ++ q x.2) (fun x => V x.1 ∧ U x.2) where
  okb := fun a h => okB_app.2 ⟨F.okb _ h.1, G.okb _ h.2⟩
  put := fun a rest h => by
    unfold pairR
    rw [List.append_assoc, F.put _ _ h.1]
    simp only []
    rw [G.put _ _ h.2]
  get := fun xs a rest hx h => by
    unfold pairR at h
    generalize hf : f xs = r1 at h
    cases r1 with
    | error e => cases h
    | ok r1 =>
      obtain ⟨a1, r⟩ := r1
      simp only at h
      obtain ⟨h1, h2⟩ := F.get xs a1 r hx hf
      have hr : okB r := by rw [h2] at hx; exact (okB_app.1 hx).2
      generalize hg : g r = r2 at h
      cases r2 with
      | error e => cases h
      | ok r2 =>
        obtain ⟨b1, r3⟩ := r2
        simp only at h
        injection h with h
        obtain ⟨rfl, rfl⟩ := Prod.mk.inj h
        obtain ⟨h3, h4⟩ := G.get r b1 r3 hr hg
        exact ⟨⟨h1, h3⟩, by rw [h2, h4, List.append_assoc]⟩
  cut := fun a j h hj => by
    unfold pairR
    by_cases hl : j < (p a.1).length
    · rw [take_app_lt hl, F.cut _ j h.1 hl]
    · rw [take_app_ge hl, F.put _ _ h.1]
      simp only []
      rw [G.cut _ _ h.2 (by rw [List.length_append] at hj; omega)]
theorem Codec.many (F : Codec f p V) : ∀ n, Codec (manyR f n) (fun l => l.flatMap p) (fun l => l.length = n ∧ ∀ a ∈ l, V a)
  | 0 => {
      okb := fun a h => by obtain rfl := List.length_eq_zero_iff.1 h.1; intro x hx; simp at hx
      put := fun a rest h => by obtain rfl := List.length_eq_zero_iff.1 h.1; rfl
      get := fun xs a rest hx h => by
        unfold manyR at h
        injection h with h
        obtain ⟨rfl, rfl⟩ := Prod.mk.inj h
        exact ⟨⟨rfl, fun a ha => by cases ha⟩, rfl⟩
      cut := fun a j h hj => by obtain rfl := List.length_eq_zero_iff.1 h.1; simp at hj }
  | n + 1 => {
      okb := fun a h => by
        obtain ⟨h1, h2⟩ := h
        cases a with
        | nil => cases h1
        | cons a l =>
          rw [List.flatMap_cons]
          exact okB_app.2 ⟨F.okb a (h2 a (by simp)), (Codec.many F n).okb l ⟨by simpa using h1, fun b hb => h2 b (by simp [hb])⟩⟩
      put := fun a rest h => by
        obtain ⟨h1, h2⟩ := h
        cases a with
        | nil => cases h1
        | cons a l =>
          unfold manyR
          rw [List.flatMap_cons, List.append_assoc, F.put a _ (h2 a (by simp))]
          simp only []
          rw [(Codec.many F n).put l rest ⟨by simpa using h1, fun b hb => h2 b (by simp [hb])⟩]
      get := fun xs a rest hx h => by
        unfold manyR at h
        generalize hf : f xs = r1 at h
        cases r1 with
        | error e => cases h
        | ok r1 =>
          obtain ⟨a1, r⟩ := r1
          simp only at h
          obtain ⟨h1, h2⟩ := F.get xs a1 r hx hf
          have hr : okB r := by rw [h2] at hx; exact (okB_app.1 hx).2
          generalize hg : manyR f n r = r2 at h
          cases r2 with
          | error e => cases h
          | ok r2 =>
            obtain ⟨b1, r3⟩ := r2
            simp only at h
            injection h with h
            obtain ⟨rfl, rfl⟩ := Prod.mk.inj h
            obtain ⟨⟨h3, h5⟩, h4⟩ := (Codec.many F n).get r b1 r3 hr hg
            refine ⟨⟨by simp [h3], fun c hc => ?_⟩, by rw [h2, h4, List.flatMap_cons, List.append_assoc]⟩
            rcases List.mem_cons.1 hc with rfl | hc
            · exact h1
            · exact h5 c hc
      cut := fun a j h hj => by
        obtain ⟨h1, h2⟩ := h
        cases a with
        | nil => cases h1
        | cons a l =>
          rw [List.flatMap_cons] at hj ⊢
          unfold manyR
          by_cases hl : j < (p a).length
          · rw [take_app_lt hl, F.cut _ j (h2 a (by simp)) hl]
          · rw [take_app_ge hl, F.put _ _ (h2 a (by simp))]
            simp only []
            rw [(Codec.many F n).cut l _ ⟨by simpa using h1, fun b hb => h2 b (by simp [hb])⟩ (by rw [List.length_append] at hj; omega)] }
theorem Codec.map (F : Codec f p V) (t : α → β) (u : β → α) (W : β → Prop) (h1 : ∀ a, V a → u (t a) = a) (h2 : ∀ a, V a → W (t a)) (h3 : ∀ b, W b → V (u b) ∧ t (u b) = b) : Codec (mapR t f) (fun b => p (u b)) W where
  okb := fun b h => F.okb _ (h3 b h).1
  put := fun b rest h => by
    unfold mapR
    rw [F.put _ _ (h3 b h).1]
    simp only []
    rw [(h3 b h).2]
  get := fun xs b rest hx h => by
    unfold mapR at h
    generalize hf : f xs = r1 at h
    cases r1 with
    | error e => cases h
    | ok r1 =>
      obtain ⟨a1, r⟩ := r1
      simp only at h
      injection h with h
      obtain ⟨rfl, rfl⟩ := Prod.mk.inj h
      obtain ⟨g1, g2⟩ := F.get xs a1 r hx hf
      exact ⟨h2 _ g1, by rw [h1 _ g1]; exact g2⟩
  cut := fun b j h hj => by
    unfold mapR
    rw [F.cut _ j (h3 b h).1 hj]
theorem Codec.count (F : Codec f p V) (least most sub : Nat) (hs : sub ≤ least) (hm : most < 18446744073709551616) : Codec (countR least most sub f) (fun l => bytesOf (l.length + sub) ++ l.flatMap p) (fun l => least ≤ l.length + sub ∧ l.length + sub ≤ most ∧ ∀ a ∈ l, V a) where
  okb := fun l h => okB_app.2 ⟨bytes_ok _, (F.many l.length).okb l ⟨rfl, h.2.2⟩⟩
  put := fun l rest h => by
    unfold countR
    rw [List.append_assoc, (codec_num least most 11 hm).put _ _ ⟨h.1, h.2.1⟩]
    simp only []
    rw [show l.length + sub - sub = l.length from by omega]
    exact (F.many l.length).put l rest ⟨rfl, h.2.2⟩
  get := fun xs l rest hx h => by
    unfold countR at h
    generalize hf : numR least most 11 xs = r1 at h
    cases r1 with
    | error e => cases h
    | ok r1 =>
      obtain ⟨n, r⟩ := r1
      simp only at h
      obtain ⟨h1, h2⟩ := (codec_num least most 11 hm).get xs n r hx hf
      have hr : okB r := by rw [h2] at hx; exact (okB_app.1 hx).2
      obtain ⟨⟨h3, h4⟩, h5⟩ := (F.many (n - sub)).get r l rest hr h
      have e : l.length + sub = n := by omega
      exact ⟨⟨by omega, by omega, h4⟩, by rw [e, h2, h5, List.append_assoc]⟩
  cut := fun l j h hj => by
    unfold countR
    by_cases hl : j < (bytesOf (l.length + sub)).length
    · rw [take_app_lt hl, (codec_num least most 11 hm).cut _ j ⟨h.1, h.2.1⟩ hl]
    · rw [take_app_ge hl, (codec_num least most 11 hm).put _ _ ⟨h.1, h.2.1⟩]
      simp only []
      rw [show l.length + sub - sub = l.length from by omega]
      exact (F.many l.length).cut l _ ⟨rfl, h.2.2⟩ (by rw [List.length_append] at hj; omega)
end
end Go.Proofs.Ytdhmoiiagplbpaa
