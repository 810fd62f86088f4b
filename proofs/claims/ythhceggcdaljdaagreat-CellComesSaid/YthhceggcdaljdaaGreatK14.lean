/- the program's there, take -/
import Derived.Test.YthhceggcdaljdaaGreatK09
import Derived.Test.YthhceggcdaljdaaGreatK10
import Derived.Test.YthhceggcdaljdaaGreatK12
import Derived.Shelf.Bits.Mul64
import Derived.Laws.Externs
namespace Go.Proofs.YthhceggcdaljdaaGreat
open Go.RowKit
set_option linter.unusedVariables false
set_option linter.unusedSimpArgs false

set_option maxRecDepth 100000 in
set_option maxHeartbeats 4000000 in
theorem pthere_in (xs : List IV) (v : Value) (b off m c j : Nat) (w : World) (hl : xs.length ≤ 900000) (hj : j < m) (hm : m ≤ 900000) (hb : b < w.heap.size) (hc : w.cell? ⟨b, off + j, none⟩ = some v) (h : RI.Is w v xs) :
    Calls Tryz.prog 138 #[.slice (some ⟨b, off, none⟩) m c, .int .i64 j] w (RI.Made (thereI xs) w) := by
  have HT : Hid (Calls Tryz.prog 130 #[v] w (RI.Made (thereI xs) w)) := bthere_any xs v w hl h
  have hlz : ¬ (m : Int) ≤ (j : Int) := by omega
  clear h hl
  go_enter Tryz.func138, Tryz.ntmps138
  go_wp2_with fail
  refine (HT.out).mono ?_
  rintro e w1 ⟨v1, rfl, hO, hb1⟩
  have HX : Hid (RI.Made (thereI xs) w (.returned v1) w1) := ⟨v1, rfl, hO, hb1⟩
  clear hO hb1 HT
  go_wp2
  go_returns
  exact HX.out
set_option maxRecDepth 100000 in
set_option maxHeartbeats 4000000 in
theorem pthere_out (p : Option Addr) (m c j : Nat) (w : World) (hj : m ≤ j) (hm : m ≤ 900000) :
    Calls Tryz.prog 138 #[.slice p m c, .int .i64 j] w (RI.Made [] w) := by
  have hlz : (m : Int) ≤ (j : Int) := by omega
  go_enter Tryz.func138, Tryz.ntmps138
  go_wp2
  go_returns
  exact ⟨_, rfl, RowKind.Own.nil RI _ _, Below.refl _ _⟩
/-- two results: a key's items and what stands behind them: parts of the row that was handed in -/
def TakeR (vin : Value) (xs : List IV) (k : Int) (w : World) (e : Ending) (w' : World) : Prop :=
  ∃ u v, e = .returned (.tuple #[u, v]) ∧ (∀ W, RI.Is W vin xs → RI.Is W u (takeO xs k)) ∧ (∀ W, RI.Is W vin xs → RI.Is W v (restO xs k)) ∧ capOk u ∧ capOk v ∧ Below w.heap.size w w'
theorem is_row {W : World} {b off n cap : Nat} {xs : List IV} (h : RI.Is W (.slice (some ⟨b, off, none⟩) n cap) xs) (h0 : 0 < xs.length) : b < W.heap.size ∧ RI.Row W b off xs := by
  rcases h with ⟨e, _⟩ | ⟨_, b2, o2, cap2, e, hb, hr⟩
  · rw [e] at h0; exact absurd h0 (Nat.lt_irrefl _)
  · cases e; exact ⟨hb, hr⟩
theorem is_row' {W : World} {p : Option Addr} {n cap : Nat} {xs : List IV} (h : RI.Is W (.slice p n cap) xs) (h0 : 0 < xs.length) : ∃ b off, p = some ⟨b, off, none⟩ ∧ b < W.heap.size ∧ RI.Row W b off xs := by
  rcases h with ⟨e, _⟩ | ⟨_, b2, o2, cap2, e, hb, hr⟩
  · rw [e] at h0; exact absurd h0 (Nat.lt_irrefl _)
  · cases e; exact ⟨b2, o2, rfl, hb, hr⟩
theorem drop_cons_getA {α : Type} [Inhabited α] (xs : List α) (k : Nat) (hk : k < xs.length) : xs.drop k = xs[k]! :: xs.drop (k + 1) := by
  rw [getElem!_pos xs k hk]
  exact List.drop_eq_getElem_cons hk
theorem dropO_lt {xs : List IV} {k : Int} {j : Nat} (hj : j < xs.length) (h : xs[j]!.t.k < k) : dropO (xs.drop j) k = dropO (xs.drop (j + 1)) k := by
  rw [drop_cons_getA xs j hj]
  unfold dropO
  rw [List.dropWhile_cons, if_pos (by simpa using h)]
theorem dropO_ge {xs : List IV} {k : Int} {j : Nat} (h : ∀ hj : j < xs.length, ¬ xs[j]!.t.k < k) : dropO (xs.drop j) k = xs.drop j := by
  by_cases hj : j < xs.length
  · rw [drop_cons_getA xs j hj]
    unfold dropO
    rw [List.dropWhile_cons, if_neg (by simpa using h hj)]
  · rw [List.drop_of_length_le (by omega)]
    rfl
theorem tw_next {xs : List IV} {k : Int} {m : Nat} (hm : m < xs.length) (h : xs[m]!.t.k = k) (hall : ∀ c ∈ xs.take m, c.t.k = k) : ∀ c ∈ xs.take (m + 1), c.t.k = k := fun c hc => by
  rw [take_getA xs m hm] at hc
  rcases List.mem_append.1 hc with hc | hc
  · exact hall c hc
  · rw [List.mem_singleton.1 hc]; exact h
theorem tw_end {f : IV → Bool} : ∀ {xs : List IV} {m : Nat}, m ≤ xs.length → (∀ c ∈ xs.take m, f c = true) → (∀ hm : m < xs.length, f xs[m]! = false) → xs.takeWhile f = xs.take m ∧ xs.dropWhile f = xs.drop m
  | [], m, _, _, _ => by simp
  | c :: xs, 0, _, _, h => by
    have h1 : f c = false := h (by simp)
    rw [List.takeWhile_cons, List.dropWhile_cons, h1]
    simp
  | c :: xs, m + 1, hm, ha, h => by
    have h1 : f c = true := ha c (by simp)
    have ih := tw_end (f := f) (xs := xs) (m := m) (by simpa using hm) (fun d hd => ha d (by simp [hd])) (fun hm' => by have := h (by simpa using hm'); simpa using this)
    rw [List.takeWhile_cons, List.dropWhile_cons, if_pos h1, if_pos h1, ih.1, ih.2]
    simp
theorem is_drop {w : World} {b off c n : Nat} {xs : List IV} (hb : b < w.heap.size) (hr : RI.Row w b off xs) (hn : n = xs.length) (j : Nat) (hj : j ≤ n) : RI.Is w (.slice (some ⟨b, off + j * 3, none⟩) (n - j) (c - j)) (xs.drop j) := by
  subst hn
  by_cases h : j < xs.length
  · refine .inr ⟨by rw [drop_cons_getA xs j h]; simp, b, off + j * 3, c - j, by rw [List.length_drop], hb, ?_⟩
    intro i hi q u hu
    rw [List.length_drop] at hi
    have := hr (j + i) (by omega) q u (by
      rw [getElem!_pos _ _ (by rw [List.length_drop]; exact hi), List.getElem_drop] at hu
      rw [getElem!_pos _ _ (by omega)]
      exact hu)
    have e : off + j * 3 + i * 3 + q = off + (j + i) * 3 + q := by omega
    show w.cell? ⟨b, off + j * 3 + i * RI.k + q, none⟩ = some u
    rw [show RI.k = 3 from rfl, e]
    exact this
  · refine .inl ⟨by rw [List.drop_of_length_le (by omega)], _, c - j, by rw [show xs.length - j = 0 by omega], fun e => by cases e⟩
theorem is_take {w : World} {b off c n m : Nat} {xs : List IV} (hb : b < w.heap.size) (hr : RI.Row w b off xs) (j : Nat) (hm : j + m ≤ xs.length) : RI.Is w (.slice (some ⟨b, off + j * 3, none⟩) m c) ((xs.drop j).take m) := by
  by_cases h : 0 < m
  · have hlen : ((xs.drop j).take m).length = m := by rw [List.length_take, List.length_drop]; omega
    refine .inr ⟨by intro e; rw [e] at hlen; simp at hlen; omega, b, off + j * 3, c, by rw [hlen], hb, ?_⟩
    intro i hi q u hu
    rw [hlen] at hi
    have := hr (j + i) (by omega) q u (by
      rw [getElem!_pos _ _ (by rw [hlen]; exact hi), List.getElem_take, List.getElem_drop] at hu
      rw [getElem!_pos _ _ (by omega)]
      exact hu)
    have e : off + j * 3 + i * 3 + q = off + (j + i) * 3 + q := by omega
    show w.cell? ⟨b, off + j * 3 + i * RI.k + q, none⟩ = some u
    rw [show RI.k = 3 from rfl, e]
    exact this
  · obtain rfl : m = 0 := by omega
    exact .inl ⟨rfl, _, c, rfl, fun e => by cases e⟩
set_option maxRecDepth 100000 in
set_option maxHeartbeats 4000000 in
theorem take_row (xs : List IV) (k : Int) (b off cap : Nat) (w : World) (hl : xs.length ≤ 900000) (hcap : xs.length ≤ cap) (hb : b < w.heap.size) (hr : RI.Row w b off xs) :
    Calls Tryz.prog 223 #[.slice (some ⟨b, off, none⟩) xs.length cap, .int .i64 k] w (TakeR (.slice (some ⟨b, off, none⟩) xs.length cap) xs k w) := by
  have hrow : Hid (∀ j, j < xs.length → _) := fun j hj => atI hr j hj
  have hdrop : Hid (∀ W, RI.Is W (.slice (some ⟨b, off, none⟩) xs.length cap) xs → ∀ j o, j ≤ xs.length → (j < xs.length → o = off + j * 3) → RI.Is W (.slice (some ⟨b, o, none⟩) (xs.length - j) (cap - j)) (xs.drop j)) := fun W hW j o hj ho => by
    by_cases h : j < xs.length
    · rw [ho h]; exact is_drop (is_row hW (by omega)).1 (is_row hW (by omega)).2 rfl j hj
    · exact .inl ⟨by rw [List.drop_of_length_le (by omega)], _, cap - j, by rw [show xs.length - j = 0 by omega], fun e => by cases e⟩
  have htake : Hid (∀ W, RI.Is W (.slice (some ⟨b, off, none⟩) xs.length cap) xs → ∀ j m c o, j + m ≤ xs.length → (0 < m → o = off + j * 3) → RI.Is W (.slice (some ⟨b, o, none⟩) m c) ((xs.drop j).take m)) := fun W hW j m c o hm ho => by
    by_cases h : 0 < m
    · rw [ho h]; exact is_take (n := 0) (is_row hW (by omega)).1 (is_row hW (by omega)).2 j hm
    · obtain rfl : m = 0 := by omega
      exact .inl ⟨rfl, _, c, rfl, fun e => by cases e⟩
  have hlt : Hid (∀ j, j < xs.length → xs[j]!.t.k < k → dropO (xs.drop j) k = dropO (xs.drop (j + 1)) k) := fun j hj h => dropO_lt hj h
  have hge : Hid (∀ j, (∀ hj : j < xs.length, ¬ xs[j]!.t.k < k) → dropO (xs.drop j) k = xs.drop j) := fun j h => dropO_ge h
  have hfin : Hid (∀ j m, dropO (xs.drop j) k = dropO xs k → dropO (xs.drop j) k = xs.drop j → j + m ≤ xs.length → (∀ i, i < m → xs[j + i]!.t.k = k) → (∀ hj : j + m < xs.length, ¬ xs[j + m]!.t.k = k) → takeO xs k = (xs.drop j).take m ∧ restO xs k = xs.drop (j + m)) := by
    intro j m h1 h2 h3 h4 h5
    have hdl : (xs.drop j).length = xs.length - j := List.length_drop
    have := tw_end (f := fun c => decide (c.t.k = k)) (xs := xs.drop j) (m := m) (by omega) (by
      intro c hc
      obtain ⟨i, hi, rfl⟩ := List.mem_iff_getElem.1 hc
      rw [List.length_take] at hi
      rw [List.getElem_take, List.getElem_drop]
      have := h4 i (by omega)
      rw [getElem!_pos _ _ (by omega)] at this
      exact decide_eq_true this) (by
      intro hm'
      have := h5 (by omega)
      rw [getElem!_pos (xs.drop j) m hm', List.getElem_drop]
      rw [getElem!_pos _ _ (by omega)] at this
      exact decide_eq_false this)
    unfold takeO restO
    rw [← h1, h2]
    exact ⟨this.1, by rw [this.2, List.drop_drop]⟩
  have h00 : Hid (dropO (xs.drop 0) k = dropO xs k) := by rw [List.drop_zero]; exact rfl
  generalize hn : xs.length = n at *
  clear hn hr
  have hk0 : Hid (∀ j, j < n → w.cell? ⟨b, off + j * 3, none⟩ = some (.int .i64 xs[j]!.t.k)) := fun j hj => (hrow.out j hj).1
  go_enter Tryz.func223, Tryz.ntmps223
  go_wp2
  go_loopg [0] n (fun gg v wr => ∃ (j o : Nat), j ≤ n ∧ n - j ≤ gg ∧ v = .slice (some ⟨b, o, none⟩) (n - j) (cap - j) ∧ Hid (j < n → o = off + j * 3) ∧ Hid (dropO (xs.drop j) k = dropO xs k) ∧ wr = w)
  case atStart => exact ⟨0, off, Nat.zero_le _, by omega, by simp, fun _ => by omega, h00.out, rfl⟩
  case round =>
    obtain ⟨j, o, hjn, hg, rfl, HO, HD, rfl⟩ := hrel
    by_cases hlt' : j < n
    · have e0 := hk0.out j hlt'
      rw [← HO.out hlt'] at e0
      by_cases hk : xs[j]!.t.k < k
      · have HD2 : Hid (dropO (xs.drop (j + 1)) k = dropO xs k) := by
          have := HD.out
          rw [hlt.out j hlt' hk] at this
          exact this
        generalize xs[j]!.t.k = q at e0 hk
        have g3 := HO.out hlt'
        clear HD hrow hdrop htake hlt hge hfin h00 hk0 HO
        have g1 : Hid (n - j = (n - (j + 1)) + 1) := show _ = _ by omega
        have g2 : Hid (cap - j = (cap - (j + 1)) + 1) := show _ = _ by omega
        have g4 : n - (j + 1) ≤ cap - (j + 1) := by omega
        have g5 : Hid (n - (j + 1) < gk) := show _ < _ by omega
        have HG : Hid (j + 1 < n → o + 3 = off + (j + 1) * 3) := fun _ => by omega
        have HGz : Hid (cap - (j + 1) = 0 → ¬ j + 1 < n) := fun _ => by omega
        rw [g1.out, g2.out]
        generalize hL : n - (j + 1) = L at *
        generalize hC : cap - (j + 1) = C at *
        have hlz : (0 : Int) < ((L + 1 : Nat) : Int) := by omega
        have HOLC : Hid (n - (j + 1) = L ∧ cap - (j + 1) = C) := ⟨hL, hC⟩
        have HJ : Hid (j + 1 ≤ n) := hlt'
        clear g3 hL hC hg hjn hlt' hcap hl hb g1 g2
        cases C with
        | zero =>
          obtain rfl : L = 0 := Nat.le_zero.1 g4
          go_wp2
          go_roundg 0
          case measure => exact g5.out
          case rel => exact ⟨j + 1, o, HJ.out, by rw [HOLC.out.1]; exact Nat.le_refl _, by rw [HOLC.out.1, HOLC.out.2], fun h => absurd h (HGz.out (by trivial)), HD2.out, rfl⟩
        | succ C =>
          go_wp2
          go_roundg L
          case measure => exact g5.out
          case rel => exact ⟨j + 1, o + 3, HJ.out, by rw [HOLC.out.1]; exact Nat.le_refl _, by rw [HOLC.out.1, HOLC.out.2], HG.out, HD2.out, rfl⟩
      · have HX : Hid (dropO (xs.drop j) k = dropO xs k ∧ dropO (xs.drop j) k = xs.drop j) := ⟨HD.out, hge.out j fun _ => by omega⟩
        have hlz : (0 : Int) < ((n - j : Nat) : Int) := by omega
        generalize hq : xs[j]!.t.k = q at e0 hk
        generalize hL : n - j = L at *
        generalize hC : cap - j = C at *
        have hLC : Hid (n - j = L ∧ cap - j = C) := ⟨hL, hC⟩
        have hLl : L ≤ 900000 := by omega
        have hLc : L ≤ C := by omega
        have HR2 : Hid (∀ m, m < L → wr.cell? ⟨b, o + m * 3, none⟩ = some (.int .i64 xs[j + m]!.t.k)) := fun m hm => by
          rw [HO.out (by omega)]
          have := (hrow.out (j + m) (by omega)).1
          rw [show off + (j + m) * 3 = off + j * 3 + m * 3 by omega] at this
          exact this
        have HE : Hid (∀ m o', m ≤ L → (∀ i, i < m → xs[j + i]!.t.k = k) → (∀ hj : m < L, ¬ xs[j + m]!.t.k = k) → (m < L → o' = o + m * 3) → TakeR (.slice (some ⟨b, off, none⟩) n cap) xs k wr (.returned (.tuple #[.slice (some ⟨b, o, none⟩) m C, .slice (some ⟨b, o', none⟩) (L - m) (C - m)])) wr.drew) := fun m o' h1 h2 h3 h4 => by
          have f := hfin.out j m HX.out.1 HX.out.2 (by omega) h2 fun hj => h3 (by omega)
          refine ⟨_, _, rfl, ?_, ?_, fun _ _ _ e => by cases e; omega, fun _ _ _ e => by cases e; omega, (Below.refl _ _).drew⟩
          · intro W hW; rw [f.1]; exact htake.out W hW j m C o (by omega) fun hm => HO.out (by omega)
          · intro W hW
            rw [f.2]
            have := hdrop.out W hW (j + m) o' (by omega) fun hj => by rw [h4 (by omega), HO.out (by omega)]; omega
            rw [show n - (j + m) = L - m by omega, show cap - (j + m) = C - m by omega] at this
            exact this
        clear hrow hdrop htake hlt hge hfin h00 HX HO hL hC hLC HD hg hjn hcap hl hb hlt'
        clear hq hk0
        go_wp2
        go_loopg [6] L (fun gg i wr2 => ∃ m : Nat, m ≤ L ∧ L - m ≤ gg ∧ i = .int .i64 m ∧ Hid (∀ i, i < m → xs[j + i]!.t.k = k) ∧ wr2 = wr)
        case atStart => exact ⟨0, Nat.zero_le _, by omega, rfl, fun i hi => absurd hi (Nat.not_lt_zero _), rfl⟩
        case round =>
          obtain ⟨m, hmL, hg, rfl, HA, rfl⟩ := hrel
          by_cases hlt2 : m < L
          · have hlz : (m : Int) < (L : Int) := by omega
            have hc := HR2.out m hlt2
            by_cases hk2 : xs[j + m]!.t.k = k
            · have HA2 : Hid (∀ i, i < m + 1 → xs[j + i]!.t.k = k) := fun i hi => by
                by_cases h : i = m
                · rw [h]; exact hk2
                · exact HA.out i (by omega)
              generalize xs[j + m]!.t.k = y at hc hk2
              clear HR2 HE HA
              subst hk2
              go_wp2
              go_roundg (L - (m + 1))
              case measure => omega
              case rel => exact ⟨m + 1, by omega, by omega, by go_num, HA2.out, rfl⟩
            · have HF : Hid (∀ o', (m < L → o' = o + m * 3) → _) := fun o' h => HE.out m o' hmL HA.out (fun _ => hk2) h
              generalize hy : xs[j + m]!.t.k = y at hc hk2
              clear HR2 HE HA hy
              go_wp2
              go_region
              all_goals go_wp2
              all_goals go_returns
              exact HF.out (o + m * 3) (fun _ => rfl)
          · have hlz : ¬ (m : Int) < (L : Int) := by omega
            have HF : Hid (∀ o', (m < L → o' = o + m * 3) → _) := fun o' h => HE.out m o' hmL HA.out (fun h => absurd h hlt2) h
            clear HR2 HE HA
            go_wp2
            go_region
            all_goals go_wp2
            all_goals go_returns
            · have hcm : C = m := by assumption
              subst hcm
              have h := HF.out o (fun h => absurd h hlt2)
              rw [Nat.sub_self] at h
              exact h
            · exact HF.out (o + m * 3) (fun _ => rfl)
    · have HX : Hid (dropO (xs.drop j) k = dropO xs k ∧ dropO (xs.drop j) k = xs.drop j) := ⟨HD.out, hge.out j fun h => absurd h hlt'⟩
      obtain rfl : j = n := by omega
      rw [Nat.sub_self]
      have HE : Hid (TakeR (.slice (some ⟨b, off, none⟩) j cap) xs k wr (.returned (.tuple #[.slice (some ⟨b, o, none⟩) 0 (cap - j), .slice (some ⟨b, o, none⟩) 0 (cap - j)])) wr.drew) := by
        have f := hfin.out j 0 HX.out.1 HX.out.2 (Nat.le_refl _) (fun i hi => absurd hi (Nat.not_lt_zero _)) fun hj => absurd hj (by omega)
        have h1 := fun W hW => htake.out W hW j 0 (cap - j) o (Nat.le_refl _) fun h => absurd h (Nat.lt_irrefl _)
        have h2 := fun W hW => hdrop.out W hW j o (Nat.le_refl _) fun h => absurd h (Nat.lt_irrefl _)
        simp only [Nat.sub_self] at h2
        refine ⟨_, _, rfl, ?_, ?_, fun _ _ _ e => by cases e; omega, fun _ _ _ e => by cases e; omega, (Below.refl _ _).drew⟩
        · rw [f.1]; exact h1
        · rw [f.2]; exact h2
      clear hrow hdrop htake hlt hge hfin h00 HX HO HD hg hjn hcap hl hb hlt' hk0
      generalize cap - j = C at *
      go_wp2
      refine wp_loop_rounds 1 ?_
      rw [rounds_succ]
      go_wp2
      go_region
      all_goals go_wp2
      all_goals go_returns
      all_goals exact HE.out
set_option maxRecDepth 100000 in
set_option maxHeartbeats 4000000 in
theorem take_nil (k : Int) (p : Option Addr) (cap : Nat) (hp : p = none → cap = 0) (w : World) : Calls Tryz.prog 223 #[.slice p 0 cap, .int .i64 k] w (TakeR (.slice p 0 cap) [] k w) := by
  have hI : Hid (TakeR (.slice p 0 cap) [] k w (.returned (.tuple #[.slice p 0 cap, .slice p 0 cap])) w.drew) := ⟨_, _, rfl, fun _ _ => .inl ⟨rfl, _, _, rfl, hp⟩, fun _ _ => .inl ⟨rfl, _, _, rfl, hp⟩, fun _ _ _ e => by cases e; exact Nat.zero_le _, fun _ _ _ e => by cases e; exact Nat.zero_le _, (Below.refl _ _).drew⟩
  cases p with
  | none =>
    obtain rfl := hp rfl
    clear hp
    go_enter Tryz.func223, Tryz.ntmps223
    go_wp2
    refine wp_loop_rounds 1 ?_
    rw [rounds_succ]
    go_wp2
    refine wp_loop_rounds 1 ?_
    rw [rounds_succ]
    go_wp2
    go_region
    all_goals go_wp2
    all_goals go_returns
    all_goals exact hI.out
  | some a =>
    obtain ⟨b, o, i⟩ := a
    clear hp
    go_enter Tryz.func223, Tryz.ntmps223
    go_wp2
    refine wp_loop_rounds 1 ?_
    rw [rounds_succ]
    go_wp2
    refine wp_loop_rounds 1 ?_
    rw [rounds_succ]
    go_wp2
    go_region
    all_goals go_wp2
    all_goals go_returns
    all_goals exact hI.out
theorem take_any (xs : List IV) (k : Int) (v : Value) (w : World) (hl : xs.length ≤ 900000) (hc : capOk v) (h : RI.Is w v xs) : Calls Tryz.prog 223 #[v, .int .i64 k] w (TakeR v xs k w) := by
  rcases h with ⟨rfl, p, cap, rfl, hp⟩ | ⟨h0, b, off, cap, rfl, hb, hr⟩
  · exact take_nil k p cap hp w
  · exact take_row xs k b off cap w hl (hc _ _ _ rfl) hb hr
end Go.Proofs.YthhceggcdaljdaaGreat
/- the items of each key of two bags, as an iterator: keys' closure -/
namespace Go.Proofs.YthhceggcdaljdaaGreat
open Go.RowKit Go.Shelf
attribute [local go_sem] Oper.semAt_some
set_option linter.unusedVariables false
set_option linter.unusedSimpArgs false

/-- a key's items in two bags, and the slices that hold them -/
abbrev KeyV := (List IV × List IV) × Value × Value
def encK (x : KeyV) : Array Value := #[x.2.1, x.2.2]
/-- they hold them, whatever rounds follow -/
def OkK (Br Bl : Nat) (x : KeyV) (W : World) : Prop := Bl < W.heap.size ∧ (capOk x.2.1 ∧ capOk x.2.2) ∧ ∀ W', KpL Br Bl W W' → RI.Is W' x.2.1 x.1.1 ∧ RI.Is W' x.2.2 x.1.2
theorem KpL.of_grown {Br Bl : Nat} {A B : World} {row : Option Nat} (h : A.grownBy B row) (hr : ∀ r, row = some r → r ≠ Bl ∧ ∃ o : Obj, A.heap[r]? = some o ∧ o.isCells = false) (hl : Bl < A.heap.size) : KpL Br Bl A B := by
  have hp : rowPtr B Bl = rowPtr A Bl := rowPtr_eq (h.block Bl hl fun e => (hr Bl e.symm).1 rfl)
  refine ⟨h.os, h.tape, h.output, h.size, fun j o hj hc _ _ _ => (h.block j (Array.getElem?_eq_some_iff.1 hj).1 fun e => ?_).trans hj, .inl hp, fun q g e => ?_⟩
  · obtain ⟨_, o', ho, hn⟩ := hr j e.symm
    rw [hj] at ho
    cases ho
    rw [hc] at hn
    cases hn
  · rw [hp] at e
    exact Nat.lt_of_lt_of_le (q g e) h.size
theorem okK_own {Br Bl B : Nat} (hB : Bl < B) (x : KeyV) : OwnFrom B (fun (_ : Unit) W => OkK Br Bl x W) := fun _ A C row hs hg hr =>
  ⟨Nat.lt_of_lt_of_le hs.1 hg.size, hs.2.1, fun W' hk => hs.2.2 W' ((KpL.of_grown hg (fun r e => ⟨fun e2 => by have := (hr r e).1; omega, (hr r e).2⟩) hs.1).trans hk)⟩
def sliceLen : Value → Nat
  | .slice _ n _ => n
  | _ => 0
theorem keysO_nil (f : Nat) (b : List IV) : keysO f [] b = [] := by cases f <;> rfl

set_option maxRecDepth 100000 in
set_option maxHeartbeats 8000000 in
theorem keys_iter {Kp : World → World → Prop} (Br Bl Ba Bb : Nat) (hKp : ∀ A B, Kp A B → KpL Br Bl A B) (a b : List IV) (va vb : Value) (w : World) (hlB : Bl < w.heap.size) (hrB : Br < w.heap.size) (hptr : ∀ g, rowPtr w Bl = some g → g < w.heap.size)
    (hl : a.length ≤ 900000) (hlb : b.length ≤ 900000) (hca : capOk va) (hcb : capOk vb)
    (hw : ∀ W, KpL Br Bl w W → (W.cell? ⟨Ba, 0, none⟩ = some va ∧ W.cell? ⟨Bb, 0, none⟩ = some vb) ∧ RI.Is W va a ∧ RI.Is W vb b) :
    IterV Tryz.prog 222 #[.pointer (some ⟨Ba, 0, none⟩), .pointer (some ⟨Bb, 0, none⟩)] encK (fun x => x.1) (OkK Br Bl) Kp (keysO a.length a b) w := fun l J Jx W hW hJ hJx hY hj => by
  have HK0 := Lib.hid ((KpL.of_below (Br := Br) hW hlB).trans (KpL.of_below (Br := Br) (Bl := Bl) ((Below.refl _ W).drew) (Nat.lt_of_lt_of_le hlB hW.size)))
  have hc0 := (hw _ (KpL.of_below hW hlB)).1
  have HP0 : Hid (∀ g, rowPtr W.drew Bl = some g → g < W.drew.heap.size) := HK0.out.lt hptr
  have HJ0 : Hid (J [] W.drew) := hJ _ W _ none hj (grown_of_below ((Below.refl _ W).drew)) (fun r e => by cases e)
  have HA : Hid (∀ W, KpL Br Bl w W → RI.Is W va a) := fun W h => (hw W h).2.1
  have HB : Hid (∀ W, KpL Br Bl w W → RI.Is W vb b) := fun W h => (hw W h).2.2
  obtain ⟨pa, ca, rfl⟩ := (HA.out _ HK0.out).slice
  obtain ⟨pb, cb, rfl⟩ := (HB.out _ HK0.out).slice
  have HC : Hid (capOk (.slice pa a.length ca) ∧ capOk (.slice pb b.length cb)) := ⟨hca, hcb⟩
  have HL : Hid (a.length ≤ 900000 ∧ b.length ≤ 900000) := ⟨hl, hlb⟩
  obtain ⟨hc1, hc2⟩ := hc0
  clear hw hl hlb hca hcb hj
  refine (callsIn_wide (n := 3)).1 ?_
  refine callsIn_of_wp Tryz.func222 rfl trivial ?_ rfl
  simp only [Tryz.ntmps222, List.size_toArray, List.length_cons, List.length_nil, Nat.reduceAdd, Nat.reduceSub, Array.replicate_succ, Array.replicate_zero, List.push_toArray, List.append_toArray, List.nil_append, List.cons_append]
  gi_wp2
  gi_region
  all_goals gi_wp2
  gi_loopw [4, 5, 6, 7] (fun v4 v5 v6 v7 wr => ∃ (pre : List (List IV × List IV)) (xa xb : List IV) (fu : Nat), Hid (keysO a.length a b = pre ++ keysO fu xa xb) ∧ Hid (xa.length ≤ fu ∧ xa.length ≤ 900000 ∧ xb.length ≤ 900000) ∧ Hid (∀ W, KpL Br Bl w W → RI.Is W v6 xa) ∧ Hid (∀ W, KpL Br Bl w W → RI.Is W v7 xb) ∧ Hid (capOk v6 ∧ capOk v7) ∧ J pre wr ∧ Hid (KpL Br Bl w wr) ∧ Hid (∀ g, rowPtr wr Bl = some g → g < wr.heap.size))
    (fun _ _ v6 _ _ => sliceLen v6)
  case atStart => exact ⟨[], a, b, a.length, rfl, ⟨Nat.le_refl _, HL.out⟩, HA.out, HB.out, HC.out, HJ0.out, HK0.out, HP0.out⟩
  case round =>
    obtain ⟨pre, xa, xb, fu, HE, HF, H6, H7, H8, hJs, HK, HP⟩ := hrel
    clear HA HB HC HL HK0 HP0 HJ0 hc1 hc2
    obtain ⟨p6, c6, rfl⟩ := (H6.out _ HK.out).slice
    obtain ⟨p7, c7, rfl⟩ := (H7.out _ HK.out).slice
    cases xa with
    | nil =>
      have hfin : Hid (keysO a.length a b = pre) := by have h := HE.out; rw [keysO_nil, List.append_nil] at h; exact h
      clear HE HF H6 H7 H8
      gi_wp2
      go_end0
      exact ⟨⟨_, rfl⟩, .inl (by rw [hfin.out]; exact hJs)⟩
    | cons c xa =>
      have hlen : (0 : Int) < ((c :: xa).length : Int) := by (try simp) <;> (try omega)
      have HR0 := is_row' (H6.out _ HK.out) (by simp)
      obtain ⟨g, o, rfl, hgs, hrow⟩ := HR0
      have hcell := (atI hrow 0 (by simp)).1
      simp only [Nat.zero_mul, Nat.add_zero, List.getElem!_cons_zero] at hcell

      have HT1 : Hid (Calls Tryz.prog 223 #[.slice (some ⟨g, o, none⟩) (c :: xa).length c6, .int .i64 c.t.k] wr (TakeR (.slice (some ⟨g, o, none⟩) (c :: xa).length c6) (c :: xa) c.t.k wr)) := take_any _ _ _ wr HF.out.2.1 H8.out.1 (H6.out _ HK.out)
      have HT2 : Hid (∀ W, KpL Br Bl w W → Calls Tryz.prog 223 #[.slice p7 xb.length c7, .int .i64 c.t.k] W (TakeR (.slice p7 xb.length c7) xb c.t.k W)) := fun W h => take_any _ _ _ W HF.out.2.2 H8.out.2 (H7.out _ h)
      have HE2 : Hid (∃ f2, keysO a.length a b = (pre ++ [(takeO (c :: xa) c.t.k, takeO xb c.t.k)]) ++ keysO f2 (restO (c :: xa) c.t.k) (restO xb c.t.k) ∧ (restO (c :: xa) c.t.k).length ≤ f2) := by
        have h := HF.out.1
        cases fu with
        | zero => simp at h
        | succ f => exact ⟨f, by rw [HE.out]; simp [keysO], by have := restO_head c xa; simp at h; omega⟩
      have HLN : Hid ((restO (c :: xa) c.t.k).length < (c :: xa).length ∧ (restO (c :: xa) c.t.k).length ≤ 900000 ∧ (restO xb c.t.k).length ≤ 900000) := by
        have h1 := restO_head c xa
        have h2 := HF.out.2
        have h3 : (restO xb c.t.k).length ≤ xb.length := by unfold restO dropO; exact Nat.le_trans (dropWhile_len _ _) (dropWhile_len _ _)
        rw [List.length_cons] at h2 ⊢
        exact ⟨by omega, by omega, by omega⟩
      generalize c.t.k = kk at *
      generalize hm1 : takeO (c :: xa) kk = m1 at *
      generalize hr1 : restO (c :: xa) kk = r1 at *
      generalize hm2 : takeO xb kk = m2 at *
      generalize hr2 : restO xb kk = r2 at *
      have HG : Hid (takeO (c :: xa) kk = m1 ∧ restO (c :: xa) kk = r1 ∧ takeO xb kk = m2 ∧ restO xb kk = r2) := ⟨hm1, hr1, hm2, hr2⟩
      clear hm1 hr1 hm2 hr2 hrow HE HF
      generalize hN : (c :: xa).length = N at *
      have HN := Lib.hid hN
      clear hN
      gi_wp2_with (refine ⟨trivial, ?_⟩; gi_at_call 223; refine (callsIn_wide.2 HT1.out).mono ?_; clear HT1; rintro e W1 ⟨u1, v1, rfl, hu1, hv1, hcu1, hcv1, hb1⟩)
      have HK1 := Lib.hid (HK.out.trans (KpL.of_below hb1 (Nat.lt_of_lt_of_le hlB HK.out.size)))
      refine ⟨trivial, ?_⟩
      gi_at_call 223
      refine (callsIn_wide.2 (HT2.out _ HK1.out)).mono ?_
      clear HT2
      rintro e W2 ⟨u2, v2, rfl, hu2, hv2, hcu2, hcv2, hb2⟩
      have HK2 := Lib.hid (HK1.out.trans (KpL.of_below hb2 (Nat.lt_of_lt_of_le hlB HK1.out.size)))
      have HJ2 := Lib.hid (hJ _ _ _ none (hJ _ _ _ none hJs (grown_of_below hb1) (fun r e => by cases e)) (grown_of_below hb2) (fun r e => by cases e))
      have HP2 := Lib.hid ((KpL.of_below (Br := Br) hb2 (Nat.lt_of_lt_of_le hlB HK1.out.size)).lt ((KpL.of_below (Br := Br) hb1 (Nat.lt_of_lt_of_le hlB HK.out.size)).lt HP.out))
      have HU1 : Hid (∀ W, KpL Br Bl w W → RI.Is W u1 m1) := fun W h => by have q := hu1 W (H6.out W h); rw [HG.out.1] at q; exact q
      have HV1 : Hid (∀ W, KpL Br Bl w W → RI.Is W v1 r1) := fun W h => by have q := hv1 W (H6.out W h); rw [HG.out.2.1] at q; exact q
      have HU2 : Hid (∀ W, KpL Br Bl w W → RI.Is W u2 m2) := fun W h => by have q := hu2 W (H7.out W h); rw [HG.out.2.2.1] at q; exact q
      have HV2 : Hid (∀ W, KpL Br Bl w W → RI.Is W v2 r2) := fun W h => by have q := hv2 W (H7.out W h); rw [HG.out.2.2.2] at q; exact q
      have HCU : Hid ((capOk u1 ∧ capOk u2) ∧ capOk v1 ∧ capOk v2) := ⟨⟨hcu1, hcu2⟩, hcv1, hcv2⟩
      have HPX : Hid (pre ++ [(m1, m2)] <+: keysO a.length a b) := by obtain ⟨f2, h, _⟩ := HE2.out; exact ⟨_, h.symm⟩
      have HOK : Hid (OkK Br Bl ((m1, m2), u1, u2) W2) := ⟨Nat.lt_of_lt_of_le hlB HK2.out.size, HCU.out.1, fun W' h => ⟨HU1.out W' (HK2.out.trans h), HU2.out W' (HK2.out.trans h)⟩⟩
      clear hu1 hv1 hu2 hv2 hcu1 hcv1 hcu2 hcv2 hb1 hb2 HK1 H6 H7 H8 HK HP hJs HG
      obtain ⟨fn, tmps, assign, body, hy, hR⟩ := (yield_any (hY pre ((m1, m2), u1, u2) W2 HPX.out HOK.out HJ2.out)).1 2
      dsimp only [encK] at hy
      gi_wp2
      refine hR.mono ?_
      rintro e W5 (⟨rfl, hJ5, hk5⟩ | ⟨rfl, hJx5⟩)
      · replace hk5 := hKp _ _ hk5.1
        have HK5 := Lib.hid (HK2.out.trans hk5)
        have HP5 := Lib.hid (hk5.lt HP2.out)
        have HS : Hid (sliceLen v1 = r1.length) := by obtain ⟨p, c, e⟩ := (HV1.out _ HK5.out).slice; rw [e]; rfl
        clear hk5 hR hy
        gi_wp2
        go_roundw
        case rel =>
          obtain ⟨f2, h1, h2⟩ := HE2.out
          exact ⟨_, r1, r2, f2, h1, ⟨h2, HLN.out.2⟩, HV1.out, HV2.out, HCU.out.2, hJ5, HK5.out, HP5.out⟩
        case measure =>
          have h1 := HS.out
          have h2 := HLN.out.1
          show sliceLen v1 < sliceLen (.slice _ N c6)
          rw [h1]
          exact h2
      · gi_wp2
        refine bodyPost_ret (results_none rfl _ _ _) rfl ?_
        exact ⟨⟨_, rfl⟩, .inr ⟨_, HPX.out, hJx5.1⟩⟩

end Go.Proofs.YthhceggcdaljdaaGreat
/- bits.Mul64, bits.Add64, and the program's whole (128 bits) -/
namespace Go.Proofs.YthhceggcdaljdaaGreat
open Go.RowKit Go.Shelf
set_option linter.unusedVariables false
set_option linter.unusedSimpArgs false

def mulL_ren : Go.Shelf.Ren := ⟨fun | 264 => 279 | n => n, fun | 46 => 214 | 53 => 246 | n => n, fun | n => n⟩
theorem mulL : Go.Proofs.Lays.n264 Tryz.prog mulL_ren where
  mixed := by kernel_rfl
  f264 := Tryz.func279.trans (congrArg some (by kernel_rfl))
  t46 := Tryz.underlying214
  a46 := Tryz.isAgg214
  z46 := Tryz.sizeOf214
  v46 := Tryz.zeroValue214
  t53 := Tryz.underlying246
  a53 := Tryz.isAgg246
  z53 := Tryz.sizeOf246
  v53 := Tryz.zeroValue246
theorem mul64_any (x y : Nat) (hx : x < 18446744073709551616) (hy : y < 18446744073709551616) (w : World) :
    Calls Tryz.prog 279 #[.int .u64 x, .int .u64 y] w (fun e w' => e = .returned (.tuple #[.int .u64 ((x * y / 18446744073709551616 : Nat) : Int), .int .u64 ((x * y % 18446744073709551616 : Nat) : Int)]) ∧ w' = w) :=
  Any.bits_Mul64 mulL x y hx hy w
theorem add64_any (x y c : Int) (hx : 0 ≤ x) (hy : 0 ≤ y) (hc0 : 0 ≤ c) (hc : c ≤ 1) (w : World) : (callFunc 280 #[.int .u64 x, .int .u64 y, .int .u64 c]).run Tryz.prog w =
    .ok (.value (.tuple #[.int .u64 ((x + y + c) % 18446744073709551616), .int .u64 ((x + y + c) / 18446744073709551616)])) w := by
  rw [run_callFunc_extern Tryz.func280 (by kernel_rfl) (by kernel_rfl) (by kernel_rfl) (e := add64Entry) (by kernel_rfl), run_add64 x y c hx hy hc0 hc]
  rfl
theorem add64_0 (x y : Int) (hx : 0 ≤ x) (hy : 0 ≤ y) (w : World) : (callFunc 280 #[.int .u64 x, .int .u64 y, .int .u64 0]).run Tryz.prog w =
    .ok (.value (.tuple #[.int .u64 ((x + y) % 18446744073709551616), .int .u64 ((x + y) / 18446744073709551616)])) w := by
  simpa using add64_any x y 0 hx hy (Int.le_refl 0) (by decide) w
end Go.Proofs.YthhceggcdaljdaaGreat
