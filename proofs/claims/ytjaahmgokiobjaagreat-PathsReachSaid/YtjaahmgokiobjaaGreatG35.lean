/- lists of lists of steps in memory: read (IsHH), and of the call's own (OHH) -/
import Derived.Test.YtjaahmgokiobjaaGreatG09
import Derived.Test.YtjaahmgokiobjaaGreatG30
import Derived.Test.YtjaahmgokiobjaaGreatG34
import Derived.Test.YtjaahmgokiobjaaGreatG31
import Derived.Test.YtjaahmgokiobjaaGreatG08
import Derived.Deep.RegionHeldLaw
namespace Go.Proofs.YtjaahmgokiobjaaGreat
open Go.RowKit
set_option linter.unusedVariables false
set_option linter.unusedSimpArgs false

/-- a slice as it lies in a cell -/
structure SV where
  p : Option Addr
  n : Nat
  c : Nat
instance : Inhabited SV := ⟨⟨none, 0, 0⟩⟩
abbrev SV.val (s : SV) : Value := .slice s.p s.n s.c
def RS : RowKind SV where
  enc := fun s => [s.val]
  k := 1
  k0 := by decide
  len := fun _ => rfl
  one := by
    intro c u hu
    simp at hu
    subst hu
    rfl
  tE := 53
  tS := 50
  zero := .slice none 0 0
  bytes := 24
  info := by kernel_rfl
  under := Tryz.underlying50
  zlen := rfl
  byt := by decide
/-- v is a list of these lists -/
def IsHH (w : World) (v : Value) (rows : List (List HV)) : Prop := ∃ svs : List SV, RS.Is w v svs ∧ svs.length = rows.length ∧ ∀ m, m < rows.length → RHp.Is w svs[m]!.val rows[m]!
theorem IsHH.below {w w' : World} {v : Value} {rows : List (List HV)} (h : IsHH w v rows) (hb : Below w.heap.size w w') : IsHH w' v rows := by
  obtain ⟨svs, h1, h2, h3⟩ := h
  exact ⟨svs, h1.below hb, h2, fun m hm => (h3 m hm).below hb⟩
theorem atS {w : World} {b off : Nat} {xs : List SV} (h : RS.Row w b off xs) (j : Nat) (hj : j < xs.length) : w.cell? ⟨b, off + j, none⟩ = some xs[j]!.val := by
  have := h j hj 0 _ rfl
  rw [show off + j * RS.k + 0 = off + j from by show off + j * 1 + 0 = _; omega] at this
  exact this
theorem IsHH.opened {w : World} {v : Value} {rows : List (List HV)} (h : IsHH w v rows) : ∃ p c, v = .slice p rows.length c ∧ ∀ m, m < rows.length → ∃ b off q d, p = some ⟨b, off, none⟩ ∧ RHp.Is w (.slice q (List.length rows[m]!) d) rows[m]! ∧ ∀ W, Below w.heap.size w W → W.cell? ⟨b, off + m, none⟩ = some (.slice q (List.length rows[m]!) d) := by
  obtain ⟨svs, h1, h2, h3⟩ := h
  obtain ⟨p, c, rfl, ho⟩ := RowKind.Is.opened h1
  refine ⟨p, c, by rw [h2], fun m hm => ?_⟩
  obtain ⟨b, off, e, hb, hr⟩ := ho m (by omega)
  have hi := h3 m hm
  obtain ⟨q, d, hs⟩ := hi.slice
  rw [hs] at hi
  exact ⟨b, off, q, d, e, hi, fun W hW => by rw [← hs]; exact atS (hr.below hW hb) m (by omega)⟩
def svCells (l : List SV) : Array Value := (l.map SV.val).toArray
/-- a list of lists of the call's own, from block B on, no two of them in one block -/
structure OHH (B : Nat) (W : World) (blk : Nat) (svs : List SV) (rows : List (List HV)) : Prop where
  lo : B ≤ blk
  heap : W.heap[blk]? = some (.cells (svCells svs) 53 (0, 0))
  len : svs.length = rows.length
  own : ∀ m, m < svs.length → RHp.Own B W svs[m]!.val rows[m]!
  ne : ∀ m, m < svs.length → svs[m]!.val.ownBlock ≠ some blk
  sep : ∀ m m', m < svs.length → m' < svs.length → m ≠ m' → ∀ k, svs[m]!.val.ownBlock = some k → svs[m']!.val.ownBlock ≠ some k
theorem RowKind.Own.keepJ {α : Type} {R : RowKind α} {B : Nat} {w w' : World} {v : Value} {xs : List α} (h : R.Own B w v xs) (hk : ∀ l, v.ownBlock = some l → w'.heap[l]? = w.heap[l]?) : R.Own B w' v xs := by
  obtain ⟨h1, h2⟩ := h
  refine ⟨h1, ?_⟩
  rcases h2 with h2 | ⟨g, cap, cur, e, hB, hg, rest⟩
  · exact .inl h2
  · exact .inr ⟨g, cap, cur, e, hB, (hk g (by rw [e]; rfl)).trans hg, rest⟩
namespace OHH
variable {B : Nat} {W W' : World} {blk : Nat} {svs : List SV} {rows : List (List HV)}
theorem lt (h : OHH B W blk svs rows) : blk < W.heap.size := (Array.getElem?_eq_some_iff.1 h.heap).1
theorem below (h : OHH B W blk svs rows) (hb : Below W.heap.size W W') : OHH B W' blk svs rows :=
  ⟨h.lo, (hb.block blk h.lt).trans h.heap, h.len, fun m hm => (h.own m hm).below hb, h.ne, h.sep⟩
theorem cell (h : OHH B W blk svs rows) (m : Nat) (hm : m < svs.length) : W.cell? ⟨blk, m, none⟩ = some svs[m]!.val := by
  unfold World.cell?
  rw [h.heap]
  simp only [svCells]
  rw [getElem!_pos svs m hm]
  simp [hm]
theorem frozen (h : OHH B W blk svs rows) (m : Nat) : W.frozen? ⟨blk, m, none⟩ = false := by
  unfold World.frozen?
  rw [h.heap]
  simp
theorem set_cells (svs : List SV) (m : Nat) (s : SV) : (svCells svs).setIfInBounds m s.val = svCells (svs.set m s) := by
  unfold svCells
  rw [List.map_set]
  simp
/-- one of the lists has grown, or was made anew, and is laid in its place -/
theorem put (h : OHH B W blk svs rows) (hB : B ≤ W.heap.size) {m : Nat} (hm : m < svs.length) {s : SV} {ys : List HV} (hsz : W.heap.size ≤ W'.heap.size) (hW : ∀ l, l < W.heap.size → svs[m]!.val.ownBlock ≠ some l → W'.heap[l]? = W.heap[l]?)
    (ho : RHp.Own B W' s.val ys) (hn : StaysOrNew W svs[m]!.val s.val) : OHH B (W'.setCell ⟨blk, m, none⟩ s.val) blk (svs.set m s) (rows.set m ys) := by
  have hbl := h.lt
  have hblk : W'.heap[blk]? = W.heap[blk]? := hW blk hbl (h.ne m hm)
  have hnew : ∀ k, s.val.ownBlock = some k → k ≠ blk := fun k hk e => by
    subst e
    rcases hn with hn | hn
    · exact h.ne m hm (hn.symm.trans hk)
    · have := hn k hk
      omega
  have hothers : ∀ (k : Nat), k ≠ blk → (W'.setCell ⟨blk, m, none⟩ s.val).heap[k]? = W'.heap[k]? := fun k hk => Below.heap_setCell W' ⟨blk, m, none⟩ s.val k hk
  have hg : ∀ j, (svs.set m s)[j]! = if m = j then s else svs[j]! := fun j => by
    by_cases e : m = j
    · subst e
      rw [if_pos rfl, getElem!_pos _ m (by rw [List.length_set]; exact hm), List.getElem_set_self]
    · rw [if_neg e]
      by_cases hj : j < svs.length
      · rw [getElem!_pos _ j (by rw [List.length_set]; exact hj), getElem!_pos svs j hj, List.getElem_set_ne e]
      · rw [getElem!_neg _ j (by rw [List.length_set]; exact hj), getElem!_neg svs j hj]
  have hr : ∀ j, (rows.set m ys)[j]! = if m = j then ys else rows[j]! := fun j => by
    have hm' : m < rows.length := by rw [← h.len]; exact hm
    by_cases e : m = j
    · subst e
      rw [if_pos rfl, getElem!_pos _ m (by rw [List.length_set]; exact hm'), List.getElem_set_self]
    · rw [if_neg e]
      by_cases hj : j < rows.length
      · rw [getElem!_pos _ j (by rw [List.length_set]; exact hj), getElem!_pos rows j hj, List.getElem_set_ne e]
      · rw [getElem!_neg _ j (by rw [List.length_set]; exact hj), getElem!_neg rows j hj]
  refine ⟨h.lo, ?_, by rw [List.length_set, List.length_set]; exact h.len, fun j hj => ?_, fun j hj => ?_, fun i j hi hj hij k hk => ?_⟩
  · rw [← set_cells]
    simp only [World.setCell, Array.getElem?_modify, if_true]
    rw [hblk, h.heap]
    rfl
  · rw [List.length_set] at hj
    rw [hg, hr]
    split
    · exact RowKind.Own.keepJ ho fun l hl => hothers l (hnew l hl)
    · rename_i hne
      have o := h.own j hj
      refine RowKind.Own.keepJ o fun l hl => ?_
      have hlt := (o.lt l hl).2
      have h1 : l ≠ blk := fun e => h.ne j hj (e ▸ hl)
      rw [hothers l h1]
      exact hW l hlt (fun e => h.sep m j hm hj hne l e hl)
  · rw [List.length_set] at hj
    rw [hg]
    split
    · intro e
      exact hnew blk e rfl
    · exact h.ne j hj
  · rw [List.length_set] at hi hj
    rw [hg] at hk ⊢
    split at hk
    · rename_i e1
      subst e1
      rw [if_neg hij]
      rcases hn with hn | hn
      · exact h.sep m j hm hj hij k (hn.symm.trans hk)
      · intro e
        have := hn k hk
        have := ((h.own j hj).lt k e).2
        omega
    · rename_i e1
      split
      · rename_i e2
        subst e2
        intro e
        rcases hn with hn | hn
        · exact h.sep i m hi hm hij k hk (hn.symm.trans e)
        · have := hn k e
          have := ((h.own i hi).lt k hk).2
          omega
      · exact h.sep i j hi hj hij k hk
theorem get (h : OHH B W blk svs rows) (m : Nat) (hm : m < svs.length) : svs[m]!.n = List.length rows[m]! := by
  obtain ⟨p, c, e⟩ := (h.own m hm).is.slice
  simp only [SV.val, Value.slice.injEq] at e
  exact e.2.1
/-- it may be read -/
theorem is (h : OHH B W blk svs rows) {n : Nat} (hn : n = rows.length) : IsHH W (.slice (some ⟨blk, 0, none⟩) n n) rows := by
  subst hn
  refine ⟨svs, ?_, h.len, fun m hm => (h.own m (by rw [h.len]; exact hm)).is⟩
  by_cases e : svs = []
  · subst e
    have : rows.length = 0 := h.len.symm
    rw [this]
    exact .inl ⟨rfl, _, _, rfl, fun q => by cases q⟩
  · refine .inr ⟨e, blk, 0, rows.length, by rw [h.len], h.lt, fun j hj i u hu => ?_⟩
    have hi : i = 0 := by
      have := (List.getElem?_eq_some_iff.1 hu).1
      have q : (RS.enc svs[j]!).length = 1 := rfl
      omega
    subst hi
    have hu' : u = svs[j]!.val := by simpa [RS] using hu.symm
    subst hu'
    rw [show 0 + j * RS.k + 0 = j from by show 0 + j * 1 + 0 = j; omega]
    exact h.cell j hj
/-- made: all are empty -/
theorem made (W : World) (n : Nat) : OHH W.heap.size (W.alloc (.cells (svCells (List.replicate n ⟨none, 0, 0⟩)) 53)) W.heap.size (List.replicate n ⟨none, 0, 0⟩) (List.replicate n []) := by
  have hg : ∀ m, m < n → (List.replicate n (⟨none, 0, 0⟩ : SV))[m]! = ⟨none, 0, 0⟩ := fun m hm => by rw [getElem!_pos _ m (by rw [List.length_replicate]; exact hm), List.getElem_replicate]
  have hr : ∀ m, m < n → (List.replicate n ([] : List HV))[m]! = [] := fun m hm => by rw [getElem!_pos _ m (by rw [List.length_replicate]; exact hm), List.getElem_replicate]
  refine ⟨Nat.le_refl _, heap_alloc_new W _, by rw [List.length_replicate, List.length_replicate], fun m hm => ?_, fun m hm => ?_, fun m m' hm hm' _ k hk => ?_⟩
  · rw [List.length_replicate] at hm
    rw [hg m hm, hr m hm]
    exact RowKind.Own.nil _ _ _
  · rw [List.length_replicate] at hm
    rw [hg m hm]
    intro e
    cases e
  · rw [List.length_replicate] at hm
    rw [hg m hm] at hk
    cases hk
end OHH
theorem made_cells (n : Nat) : madeCells #[.slice none 0 0] (n * 1) = svCells (List.replicate n ⟨none, 0, 0⟩) := by
  unfold madeCells svCells
  rw [List.map_replicate, Nat.mul_one]
  apply Array.ext
  · simp
  · intro i h1 h2
    simp [Nat.mod_one]
theorem make_hh (n : Nat) (hn : n ≤ 1000000) (W : World) : (Instr.makeSlice 50 (.int .i64 (n : Int)) (.int .i64 (n : Int))).run Tryz.prog W = .ok (.slice (some ⟨W.heap.size, 0, none⟩) n n) (W.alloc (.cells (svCells (List.replicate n ⟨none, 0, 0⟩)) 53)) := by
  have h := run_make_rows (P := Tryz.prog) (t := RS.tS) RS.under RS.info RS.byt n hn W
  have h : (Instr.makeSlice 50 (.int .i64 (n : Int)) (.int .i64 (n : Int))).run Tryz.prog W = .ok (.slice (some ⟨W.heap.size, 0, none⟩) n n) (W.alloc (.cells (madeCells #[.slice none 0 0] (n * 1)) 53)) := h
  rw [made_cells] at h
  exact h
end Go.Proofs.YtjaahmgokiobjaaGreat
/- steps held against each other as numbers are, number by number: cmp.Compare, cmp.Or, slices.Compare, paths.compare -/
namespace Go.Proofs.YtjaahmgokiobjaaGreat
open Go.RowKit
set_option linter.unusedVariables false
set_option linter.unusedSimpArgs false

/-- the answer, in the very same world -/
def RetS (v : Value) (w : World) (e : Ending) (w' : World) : Prop := e = .returned v ∧ w' = w
/-- the answer; what was there is there; draws are counted on -/
def RetE (v : Value) (w : World) (e : Ending) (w' : World) : Prop := e = .returned v ∧ Below w.heap.size w w' ∧ w.drawn ≤ w'.drawn
def cmpI (a b : Int) : Int := if a < b then -1 else if b < a then 1 else 0
def orI (a b : Int) : Int := if a ≠ 0 then a else b
def lexI : List Int → List Int → Int
  | [], [] => 0
  | [], _ :: _ => -1
  | _ :: _, [] => 1
  | x :: xs, y :: ys => orI (cmpI x y) (lexI xs ys)
theorem cmpI_lt (a b : Int) : cmpI a b < 0 ↔ a < b := by unfold cmpI; (repeat' split) <;> omega
theorem cmpI_zero (a b : Int) : cmpI a b = 0 ↔ a = b := by unfold cmpI; (repeat' split) <;> omega
theorem orI_lt (a b : Int) : orI a b < 0 ↔ a < 0 ∨ (a = 0 ∧ b < 0) := by unfold orI; split <;> omega
theorem lexI_cons (x y : Int) (xs ys : List Int) : lexI (x :: xs) (y :: ys) < 0 ↔ x < y ∨ (x = y ∧ lexI xs ys < 0) := by
  show orI (cmpI x y) (lexI xs ys) < 0 ↔ _
  rw [orI_lt, cmpI_lt, cmpI_zero]
theorem lexI_self : ∀ xs : List Int, ¬ lexI xs xs < 0
  | [] => by show ¬ (0 : Int) < 0; omega
  | x :: xs => by rw [lexI_cons]; have := lexI_self xs; omega
theorem lexI_trans : ∀ xs ys zs : List Int, lexI xs ys < 0 → lexI ys zs < 0 → lexI xs zs < 0
  | [], [], _, h, _ => absurd h (by show ¬ (0 : Int) < 0; omega)
  | [], _ :: _, [], _, k => absurd k (by show ¬ (1 : Int) < 0; omega)
  | [], _ :: _, _ :: _, _, _ => by show (-1 : Int) < 0; omega
  | _ :: _, [], _, h, _ => absurd h (by show ¬ (1 : Int) < 0; omega)
  | _ :: _, _ :: _, [], _, k => absurd k (by show ¬ (1 : Int) < 0; omega)
  | x :: xs, y :: ys, z :: zs, h, k => by
    rw [lexI_cons] at h k ⊢
    have := lexI_trans xs ys zs
    omega
theorem lexI_ntrans : ∀ xs ys zs : List Int, ¬ lexI xs ys < 0 → ¬ lexI ys zs < 0 → ¬ lexI xs zs < 0
  | [], [], [], _, _ => by show ¬ (0 : Int) < 0; omega
  | [], [], _ :: _, _, k => absurd (show (-1 : Int) < 0 by omega) k
  | [], _ :: _, _, h, _ => absurd (show (-1 : Int) < 0 by omega) h
  | _ :: _, _, [], _, _ => by show ¬ (1 : Int) < 0; omega
  | _ :: _, [], _ :: _, _, k => absurd (show (-1 : Int) < 0 by omega) k
  | x :: xs, y :: ys, z :: zs, h, k => by
    rw [lexI_cons] at h k ⊢
    have := lexI_ntrans xs ys zs
    omega
theorem lexI_append : ∀ (xs ys us vs : List Int), xs.length = ys.length → lexI (xs ++ us) (ys ++ vs) = orI (lexI xs ys) (lexI us vs)
  | [], [], us, vs, _ => by show lexI us vs = orI 0 _; unfold orI; simp
  | x :: xs, y :: ys, us, vs, h => by
    have ih := lexI_append xs ys us vs (by simpa using h)
    show orI (cmpI x y) (lexI (xs ++ us) (ys ++ vs)) = orI (orI (cmpI x y) (lexI xs ys)) (lexI us vs)
    rw [ih]
    unfold orI
    by_cases q : cmpI x y = 0
    · simp [q]
    · simp [q]
  | [], _ :: _, _, _, h => by simp at h
  | _ :: _, [], _, _, h => by simp at h
def keyH (h : HV) : List Int := h.k :: ([h.a0, h.a1, h.a2, h.a3] ++ [h.b0, h.b1, h.b2, h.b3])
def cmpH (a b : HV) : Int := orI (cmpI a.k b.k) (orI (lexI [a.a0, a.a1, a.a2, a.a3] [b.a0, b.a1, b.a2, b.a3]) (lexI [a.b0, a.b1, a.b2, a.b3] [b.b0, b.b1, b.b2, b.b3]))
theorem cmpH_is (a b : HV) : cmpH a b = lexI (keyH a) (keyH b) := by
  unfold cmpH keyH
  have q := lexI_append [a.a0, a.a1, a.a2, a.a3] [b.a0, b.a1, b.a2, b.a3] [a.b0, a.b1, a.b2, a.b3] [b.b0, b.b1, b.b2, b.b3] rfl
  rw [← q]
  rfl

theorem inan_any (a : Int) (w : World) : Calls Tryz.prog 100 #[.int .i64 a] w (RetS (.bool false) w) := by
  go_enter Tryz.func100, Tryz.ntmps100
  go_wp2
  go_returns
  exact ⟨by simp, rfl⟩
theorem icompare_any (a b : Int) (w : World) : Calls Tryz.prog 71 #[.int .i64 a, .int .i64 b] w (RetS (.int .i64 (cmpI a b)) w) := by
  have HA := Lib.hid (fun W => inan_any a W)
  have HB := Lib.hid (fun W => inan_any b W)
  by_cases h1 : a < b
  · have hc : cmpI a b = -1 := by unfold cmpI; rw [if_pos h1]
    rw [hc]; clear hc
    go_enter Tryz.func71, Tryz.ntmps71
    go_wp2_with fail
    refine (HA.out _).mono ?_
    rintro e w1 ⟨rfl, rfl⟩
    go_wp2_with fail
    refine (HB.out _).mono ?_
    rintro e w1 ⟨rfl, rfl⟩
    go_wp2
    go_returns
    exact ⟨rfl, rfl⟩
  · by_cases h2 : b < a
    · have hc : cmpI a b = 1 := by unfold cmpI; rw [if_neg h1, if_pos h2]
      rw [hc]; clear hc
      go_enter Tryz.func71, Tryz.ntmps71
      go_wp2_with fail
      refine (HA.out _).mono ?_
      rintro e w1 ⟨rfl, rfl⟩
      go_wp2_with fail
      refine (HB.out _).mono ?_
      rintro e w1 ⟨rfl, rfl⟩
      go_wp2
      go_returns
      exact ⟨rfl, rfl⟩
    · have hc : cmpI a b = 0 := by unfold cmpI; rw [if_neg h1, if_neg h2]
      rw [hc]; clear hc
      go_enter Tryz.func71, Tryz.ntmps71
      go_wp2_with fail
      refine (HA.out _).mono ?_
      rintro e w1 ⟨rfl, rfl⟩
      go_wp2_with fail
      refine (HB.out _).mono ?_
      rintro e w1 ⟨rfl, rfl⟩
      go_wp2
      go_returns
      exact ⟨rfl, rfl⟩
set_option maxRecDepth 100000 in
set_option maxHeartbeats 4000000 in
theorem or3_any (a b c : Int) (g : Nat) (w : World) (h0 : w.cell? ⟨g, 0, none⟩ = some (.int .i64 a)) (h1 : w.cell? ⟨g, 1, none⟩ = some (.int .i64 b)) (h2 : w.cell? ⟨g, 2, none⟩ = some (.int .i64 c)) :
    Calls Tryz.prog 70 #[.slice (some ⟨g, 0, none⟩) 3 3] w (RetS (.int .i64 (orI a (orI b c))) w) := by
  by_cases ha : a = 0
  · rw [show orI a (orI b c) = orI b c from if_neg (by simpa using ha)]
    subst ha
    by_cases hb : b = 0
    · rw [show orI b c = c from if_neg (by simpa using hb)]
      subst hb
      by_cases hc : c = 0
      · subst hc
        go_enter Tryz.func70, Tryz.ntmps70
        go_wp2
        refine wp_loop_rounds 4 ?_
        rw [rounds_succ]
        go_wp2
        rw [rounds_succ]
        go_wp2
        rw [rounds_succ]
        go_wp2
        rw [rounds_succ]
        go_wp2
        go_returns
        exact ⟨rfl, rfl⟩
      · have hcb : (c != 0) = true := by simp [hc]
        go_enter Tryz.func70, Tryz.ntmps70
        go_wp2
        refine wp_loop_rounds 4 ?_
        rw [rounds_succ]
        go_wp2
        rw [rounds_succ]
        go_wp2
        rw [rounds_succ]
        go_wp2
        go_returns
        exact ⟨rfl, rfl⟩
    · rw [show orI b c = b from if_pos (by simpa using hb)]
      have hbb : (b != 0) = true := by simp [hb]
      go_enter Tryz.func70, Tryz.ntmps70
      go_wp2
      refine wp_loop_rounds 4 ?_
      rw [rounds_succ]
      go_wp2
      rw [rounds_succ]
      go_wp2
      go_returns
      exact ⟨rfl, rfl⟩
  · have hab : (a != 0) = true := by simp [ha]
    rw [show orI a (orI b c) = a from if_pos (by simpa using ha)]
    clear ha
    go_enter Tryz.func70, Tryz.ntmps70
    go_wp2
    refine wp_loop_rounds 4 ?_
    rw [rounds_succ]
    go_wp2
    go_returns
    exact ⟨rfl, rfl⟩
/-- the cells from an address on hold these numbers -/
def ints4 (w : World) (b o : Nat) (x0 x1 x2 x3 : Int) : Prop := w.cell? ⟨b, o, none⟩ = some (.int .i64 x0) ∧ w.cell? ⟨b, o + 1, none⟩ = some (.int .i64 x1) ∧ w.cell? ⟨b, o + 2, none⟩ = some (.int .i64 x2) ∧ w.cell? ⟨b, o + 3, none⟩ = some (.int .i64 x3)
set_option maxRecDepth 100000 in
set_option maxHeartbeats 8000000 in
theorem scompare_any (x0 x1 x2 x3 y0 y1 y2 y3 : Int) (b o c q : Nat) (w : World) (hx : ints4 w b o x0 x1 x2 x3) (hy : ints4 w c q y0 y1 y2 y3) :
    Calls Tryz.prog 72 #[.slice (some ⟨b, o, none⟩) 4 4, .slice (some ⟨c, q, none⟩) 4 4] w (RetS (.int .i64 (lexI [x0, x1, x2, x3] [y0, y1, y2, y3])) w) := by
  have HC := Lib.hid (fun a b W => icompare_any a b W)
  obtain ⟨e0, e1, e2, e3⟩ := hx
  obtain ⟨f0, f1, f2, f3⟩ := hy
  show Calls _ _ _ _ (RetS (.int .i64 (orI (cmpI x0 y0) (orI (cmpI x1 y1) (orI (cmpI x2 y2) (orI (cmpI x3 y3) 0))))) w)
  have H0 := Lib.hid (HC.out x0 y0)
  have H1 := Lib.hid (HC.out x1 y1)
  have H2 := Lib.hid (HC.out x2 y2)
  have H3 := Lib.hid (HC.out x3 y3)
  generalize cmpI x0 y0 = r0 at *
  generalize cmpI x1 y1 = r1 at *
  generalize cmpI x2 y2 = r2 at *
  generalize cmpI x3 y3 = r3 at *
  clear HC
  have hno : ∀ {r s : Int}, r ≠ 0 → orI r s = r := fun h => if_pos h
  have hyes : ∀ {s : Int}, orI 0 s = s := by intro s; exact if_neg (by simp)
  by_cases q0 : r0 = 0
  · subst q0
    rw [hyes]
    by_cases q1 : r1 = 0
    · subst q1
      rw [hyes]
      by_cases q2 : r2 = 0
      · subst q2
        rw [hyes]
        by_cases q3 : r3 = 0
        · subst q3
          rw [hyes]
          clear hno hyes
          go_enter Tryz.func72, Tryz.ntmps72
          go_wp2
          refine wp_loop_rounds 5 ?_
          rw [rounds_succ]
          go_wp2_with fail
          refine (H0.out _).mono ?_
          rintro e w1 ⟨rfl, rfl⟩
          go_wp2
          rw [rounds_succ]
          go_wp2_with fail
          refine (H1.out _).mono ?_
          rintro e w1 ⟨rfl, rfl⟩
          go_wp2
          rw [rounds_succ]
          go_wp2_with fail
          refine (H2.out _).mono ?_
          rintro e w1 ⟨rfl, rfl⟩
          go_wp2
          rw [rounds_succ]
          go_wp2_with fail
          refine (H3.out _).mono ?_
          rintro e w1 ⟨rfl, rfl⟩
          go_wp2
          rw [rounds_succ]
          go_wp2
          go_returns
          exact ⟨rfl, rfl⟩
        · rw [hno q3]
          have q3b : (r3 != 0) = true := by simp [q3]
          clear hno hyes
          go_enter Tryz.func72, Tryz.ntmps72
          go_wp2
          refine wp_loop_rounds 5 ?_
          rw [rounds_succ]
          go_wp2_with fail
          refine (H0.out _).mono ?_
          rintro e w1 ⟨rfl, rfl⟩
          go_wp2
          rw [rounds_succ]
          go_wp2_with fail
          refine (H1.out _).mono ?_
          rintro e w1 ⟨rfl, rfl⟩
          go_wp2
          rw [rounds_succ]
          go_wp2_with fail
          refine (H2.out _).mono ?_
          rintro e w1 ⟨rfl, rfl⟩
          go_wp2
          rw [rounds_succ]
          go_wp2_with fail
          refine (H3.out _).mono ?_
          rintro e w1 ⟨rfl, rfl⟩
          go_wp2
          go_returns
          exact ⟨rfl, rfl⟩
      · rw [hno q2]
        have q2b : (r2 != 0) = true := by simp [q2]
        clear hno hyes
        go_enter Tryz.func72, Tryz.ntmps72
        go_wp2
        refine wp_loop_rounds 5 ?_
        rw [rounds_succ]
        go_wp2_with fail
        refine (H0.out _).mono ?_
        rintro e w1 ⟨rfl, rfl⟩
        go_wp2
        rw [rounds_succ]
        go_wp2_with fail
        refine (H1.out _).mono ?_
        rintro e w1 ⟨rfl, rfl⟩
        go_wp2
        rw [rounds_succ]
        go_wp2_with fail
        refine (H2.out _).mono ?_
        rintro e w1 ⟨rfl, rfl⟩
        go_wp2
        go_returns
        exact ⟨rfl, rfl⟩
    · rw [hno q1]
      have q1b : (r1 != 0) = true := by simp [q1]
      clear hno hyes
      go_enter Tryz.func72, Tryz.ntmps72
      go_wp2
      refine wp_loop_rounds 5 ?_
      rw [rounds_succ]
      go_wp2_with fail
      refine (H0.out _).mono ?_
      rintro e w1 ⟨rfl, rfl⟩
      go_wp2
      rw [rounds_succ]
      go_wp2_with fail
      refine (H1.out _).mono ?_
      rintro e w1 ⟨rfl, rfl⟩
      go_wp2
      go_returns
      exact ⟨rfl, rfl⟩
  · rw [hno q0]
    have q0b : (r0 != 0) = true := by simp [q0]
    clear hno hyes
    go_enter Tryz.func72, Tryz.ntmps72
    go_wp2
    refine wp_loop_rounds 5 ?_
    rw [rounds_succ]
    go_wp2_with fail
    refine (H0.out _).mono ?_
    rintro e w1 ⟨rfl, rfl⟩
    go_wp2
    go_returns
    exact ⟨rfl, rfl⟩
end Go.Proofs.YtjaahmgokiobjaaGreat
