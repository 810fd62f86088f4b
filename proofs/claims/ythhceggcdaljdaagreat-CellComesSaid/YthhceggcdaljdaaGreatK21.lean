/- Apply over ports in memory; Linear; the law's awake and short -/
import Derived.Test.YthhceggcdaljdaaGreatK20
import Derived.Test.YthhceggcdaljdaaGreatG03
import Derived.Test.YthhceggcdaljdaaGreatG16
import Derived.Test.YthhceggcdaljdaaGreatG04
import Derived.Test.YthhceggcdaljdaaGreatG29
import Derived.Test.YthhceggcdaljdaaGreatG17
namespace Go.Proofs.YthhceggcdaljdaaGreat
open Go.RowKit
set_option linter.unusedVariables false
set_option linter.unusedSimpArgs false
attribute [local go_sem ↓] eqRec neRec eqItem neItem

theorem there_mem {a : List IV} : ∀ c ∈ thereI a, c ∈ a ∧ 0 < c.n ∧ c.n ≤ 2147483648 := fun c hc => by
  unfold thereI at hc
  split at hc
  · rename_i hr
    have hg := (rightI_iff a).1 hr
    have h1 := List.mem_filter.1 hc
    have h2 := hg.1 c h1.1
    have h3 : 0 < c.n := by simpa using h1.2
    refine ⟨h1.1, h3, ?_⟩
    simp [IV.ok, fitsN] at h2
    omega
  · cases hc
theorem there_len (a : List IV) : (thereI a).length ≤ a.length := by
  unfold thereI
  split
  · exact List.length_filter_le _ _
  · exact Nat.zero_le _
theorem there_there (a : List IV) : thereI (thereI a) = thereI a := by
  by_cases hr : rightI a = true
  · have hg := (rightI_iff a).1 hr
    have h1 : thereI a = posI a := by unfold thereI; rw [if_pos hr]
    have hg2 : goodI (posI a) := ⟨fun c hc => hg.1 c (List.mem_filter.1 hc).1, hg.2.filter _⟩
    rw [h1]
    unfold thereI
    rw [if_pos ((rightI_iff _).2 hg2)]
    unfold posI
    rw [List.filter_filter]
    simp
  · have h1 : thereI a = [] := by unfold thereI; rw [if_neg hr]
    rw [h1]
    rfl
/-- Apply's answer -/
def ApR (k arg : Int) (p : List NV) (t0 t1 : List IV) (w : World) (e : Ending) (w' : World) : Prop :=
  ∃ v, e = .returned (.tuple #[v, .bool (applyO k arg p t0 t1).2]) ∧ RI.Own w.heap.size w' v (applyO k arg p t0 t1).1 ∧ Below w.heap.size w w'
/-- an operator in memory -/
structure NodeA (k : Int) (w : World) (q : Option Addr) (c : Nat) (arg : Int) (p : List NV) : Prop where
  i : RC.Is w (.slice q p.length c) p
  l : k = 2 → p.length ≤ 900000
  n : ∀ x ∈ p, inR x.n
  a : inR arg
theorem NodeA.below {k : Int} {w W : World} {q : Option Addr} {c : Nat} {arg : Int} {p : List NV} (h : NodeA k w q c arg p) (hb : Below w.heap.size w W) : NodeA k W q c arg p := ⟨h.i.below hb, h.l, h.n, h.a⟩
/-- items of a port -/
structure PortA (w : World) (v : Value) (a : List IV) : Prop where
  i : RI.Is w v a
  l : a.length ≤ 400000
  q : ∀ c ∈ a, inR c.t.k ∧ inR c.t.v
theorem PortA.below {w W : World} {v : Value} {a : List IV} (h : PortA w v a) (hb : Below w.heap.size w W) : PortA W v a := ⟨h.i.below hb, h.l, h.q⟩
theorem apply_two {k s arg : Int} {q : Option Addr} {c : Nat} {p : List NV} {va vb : Value} {a b : List IV} {g : Nat} {w : World} (hN : NodeA k w q c arg p) (hA : PortA w va a) (hB : PortA w vb b) (g0 : w.cell? ⟨g, 0, none⟩ = some va) (g1 : w.cell? ⟨g, 1, none⟩ = some vb) :
    Calls Tryz.prog 65 #[.agg #[.int .i64 k, .int .i64 s, .int .i64 arg, .slice q p.length c], .slice (some ⟨g, 0, none⟩) 2 2] w (ApR k arg p (thereI a) (thereI b) w) := by
  have hg : g < w.heap.size := cell_in g0
  refine papply_any k s arg q c p _ 2 2 _ _ w hN.i hN.l hN.n hN.a (Nat.le_trans (there_len a) hA.l) (Nat.le_trans (there_len b) hB.l) (fun x hx => ⟨hA.q x (there_mem x hx).1, (there_mem x hx).2⟩) (fun x hx => ⟨hB.q x (there_mem x hx).1, (there_mem x hx).2⟩) (fun V hV => ?_) (fun V hV => ?_)
  · exact pthere_in a va g 0 2 2 0 V (by have := hA.l; omega) (by decide) (by decide) (Nat.lt_of_lt_of_le hg hV.size) ((hV.cell (p := ⟨g, 0, none⟩) hg).trans g0) (hA.i.below hV)
  · exact pthere_in b vb g 0 2 2 1 V (by have := hB.l; omega) (by decide) (by decide) (Nat.lt_of_lt_of_le hg hV.size) ((hV.cell (p := ⟨g, 1, none⟩) hg).trans g1) (hB.i.below hV)
theorem apply_one {k s arg : Int} {q : Option Addr} {c : Nat} {p : List NV} {va : Value} {a : List IV} {g : Nat} {w : World} (hN : NodeA k w q c arg p) (hA : PortA w va a) (g0 : w.cell? ⟨g, 0, none⟩ = some va) :
    Calls Tryz.prog 65 #[.agg #[.int .i64 k, .int .i64 s, .int .i64 arg, .slice q p.length c], .slice (some ⟨g, 0, none⟩) 1 1] w (ApR k arg p (thereI a) [] w) := by
  have hg : g < w.heap.size := cell_in g0
  refine papply_any k s arg q c p _ 1 1 _ _ w hN.i hN.l hN.n hN.a (Nat.le_trans (there_len a) hA.l) (Nat.zero_le _) (fun x hx => ⟨hA.q x (there_mem x hx).1, (there_mem x hx).2⟩) (fun x hx => by cases hx) (fun V hV => ?_) (fun V hV => ?_)
  · exact pthere_in a va g 0 1 1 0 V (by have := hA.l; omega) (by decide) (by decide) (Nat.lt_of_lt_of_le hg hV.size) ((hV.cell (p := ⟨g, 0, none⟩) hg).trans g0) (hA.i.below hV)
  · exact pthere_out _ 1 1 1 V (by decide) (by decide)
theorem apply_zero {k s arg : Int} {q : Option Addr} {c : Nat} {p : List NV} {w : World} (hN : NodeA k w q c arg p) :
    Calls Tryz.prog 65 #[.agg #[.int .i64 k, .int .i64 s, .int .i64 arg, .slice q p.length c], .slice none 0 0] w (ApR k arg p [] [] w) :=
  papply_any k s arg q c p _ 0 0 _ _ w hN.i hN.l hN.n hN.a (Nat.zero_le _) (Nat.zero_le _) (fun x hx => by cases hx) (fun x hx => by cases hx) (fun V hV => pthere_out _ 0 0 0 V (by decide) (by decide)) (fun V hV => pthere_out _ 0 0 1 V (by decide) (by decide))
theorem is_lit2 {W : World} {b : Nat} {x y : IV} {t : TypeId} (e : W.heap[b]? = some (.cells #[.int .i64 x.t.k, .int .i64 x.t.v, .int .i64 x.n, .int .i64 y.t.k, .int .i64 y.t.v, .int .i64 y.n] t (0, 0))) : RI.Is W (.slice (some ⟨b, 0, none⟩) 2 2) [x, y] := by
  refine .inr ⟨by simp, b, 0, 2, rfl, (Array.getElem?_eq_some_iff.1 e).1, fun j hj i u hu => ?_⟩
  have hk : RI.k = 3 := rfl
  rw [hk]
  have hi : i < 3 := by have := (List.getElem?_eq_some_iff.1 hu).1; rw [RI.len] at this; exact this
  match j, hj with
  | 0, _ =>
    match i, hi with
    | 0, _ => cases hu; exact cells_of e rfl
    | 1, _ => cases hu; exact cells_of e rfl
    | 2, _ => cases hu; exact cells_of e rfl
  | 1, _ =>
    match i, hi with
    | 0, _ => cases hu; exact cells_of e rfl
    | 1, _ => cases hu; exact cells_of e rfl
    | 2, _ => cases hu; exact cells_of e rfl
end Go.Proofs.YthhceggcdaljdaaGreat
/- the program's: what is taken back and what is given -/
namespace Go.Proofs.YthhceggcdaljdaaGreat
open Go.RowKit
set_option linter.unusedVariables false
set_option linter.unusedSimpArgs false

def takeG (was is : List IV) (lazy : Bool) : List IV × List IV := if lazy = true then (thereI (minusI was is), thereI (minusI is was)) else if was = is then ([], []) else (thereI was, thereI is)
def ChangeR (p : List IV × List IV) (w : World) (e : Ending) (w' : World) : Prop := ∃ u v, e = .returned (.tuple #[u, v]) ∧ RI.Own w.heap.size w' u p.1 ∧ RI.Own w.heap.size w' v p.2 ∧ Below w.heap.size w w'
theorem minusI_len (a b : List IV) : (minusI a b).length ≤ a.length + b.length := by
  have := plusI_len a (b.map negI)
  rw [List.length_map] at this
  exact this
set_option maxRecDepth 100000 in
set_option maxHeartbeats 8000000 in
theorem pchanges_any (xs ys : List IV) (va vb : Value) (lazy : Bool) (w : World) (hl : xs.length ≤ 400000) (hm : ys.length ≤ 400000) (h64 : in64 xs) (k64 : in64 ys) (ca : capOk va) (cb : capOk vb) (ha : RI.Is w va xs) (hb : RI.Is w vb ys) :
    Calls Tryz.prog 87 #[va, vb, .bool lazy] w (ChangeR (takeG xs ys lazy) w) := by
  have HA := Lib.hid ha
  have HB := Lib.hid hb
  have HM1 := Lib.hid (fun W (hW : Below w.heap.size w W) => bminus_any xs ys va vb W hl hm k64 ca (ha.below hW) (hb.below hW))
  have HM2 := Lib.hid (fun W (hW : Below w.heap.size w W) => bminus_any ys xs vb va W hm hl h64 cb (hb.below hW) (ha.below hW))
  have HT1 := Lib.hid (fun W v h => bthere_any (minusI xs ys) v W (by have := minusI_len xs ys; omega) h)
  have HT2 := Lib.hid (fun W v h => bthere_any (minusI ys xs) v W (by have := minusI_len ys xs; omega) h)
  have HS := Lib.hid (fun W (hW : Below w.heap.size w W) => bsame_any xs ys va vb W (by omega) (by omega) (ha.below hW) (hb.below hW))
  have HT3 := Lib.hid (fun W (hW : Below w.heap.size w W) => bthere_any xs va W (by omega) (ha.below hW))
  have HT4 := Lib.hid (fun W (hW : Below w.heap.size w W) => bthere_any ys vb W (by omega) (hb.below hW))
  obtain ⟨p, c, rfl⟩ := ha.slice
  obtain ⟨q, d, rfl⟩ := hb.slice
  have HL : Hid (lazy = true → takeG xs ys lazy = (thereI (minusI xs ys), thereI (minusI ys xs))) := fun h => by unfold takeG; rw [if_pos h]
  have HE : Hid (lazy = false → xs = ys → takeG xs ys lazy = ([], [])) := fun h k => by unfold takeG; rw [if_neg (by rw [h]; decide), if_pos k]
  have HN : Hid (lazy = false → ¬ xs = ys → takeG xs ys lazy = (thereI xs, thereI ys)) := fun h k => by unfold takeG; rw [if_neg (by rw [h]; decide), if_neg k]
  have HF : Hid (∀ W u v a b, takeG xs ys lazy = (a, b) → RI.Own w.heap.size W u a → RI.Own w.heap.size W v b → Below w.heap.size w W → ChangeR (takeG xs ys lazy) w (.returned (.tuple #[u, v])) W) := fun W u v a b h h1 h2 h3 => by rw [h]; exact ⟨u, v, rfl, h1, h2, h3⟩
  generalize takeG xs ys lazy = tg at *
  generalize ChangeR tg w = R at *
  generalize minusI xs ys = m1 at *
  generalize minusI ys xs = m2 at *
  clear ha hb ca cb h64 k64 HA HB
  cases lazy
  · cases hs : decide (xs = ys)
    · rw [hs] at HS
      have hN := Lib.hid (HN.out rfl (of_decide_eq_false hs))
      clear hs HL HE HN HM1 HM2 HT1 HT2
      generalize xs.length = n1 at *
      generalize ys.length = n2 at *
      go_enter Tryz.func87, Tryz.ntmps87
      go_wp2_with fail
      refine (HS.out _ (Below.refl _ _)).mono ?_
      rintro e w1 ⟨rfl, hb1⟩
      have HB1 := Lib.hid hb1
      clear hb1 HS
      go_wp2_with fail
      refine (HT3.out _ HB1.out).mono ?_
      rintro e w2 ⟨u, rfl, hO2, hb2⟩
      have HB2 := Lib.hid (bcall HB1.out hb2 HB1.out.size)
      have HO2 := Lib.hid (hO2.mono HB1.out.size)
      clear hb2 hO2 HT3
      go_wp2_with fail
      refine (HT4.out _ HB2.out).mono ?_
      rintro e w3 ⟨v, rfl, hO3, hb3⟩
      have HX := Lib.hid (HF.out w3 u v _ _ hN.out (HO2.out.below hb3) (hO3.mono HB2.out.size) (bcall HB2.out hb3 HB2.out.size))
      clear hb3 hO3 HT4 HF
      go_wp2
      exact HX.out
    · rw [hs] at HS
      have hN := Lib.hid (HE.out rfl (of_decide_eq_true hs))
      clear hs HL HE HN HM1 HM2 HT1 HT2 HT3 HT4
      generalize xs.length = n1 at *
      generalize ys.length = n2 at *
      go_enter Tryz.func87, Tryz.ntmps87
      go_wp2_with fail
      refine (HS.out _ (Below.refl _ _)).mono ?_
      rintro e w1 ⟨rfl, hb1⟩
      have HX := Lib.hid (HF.out w1 _ _ _ _ hN.out (RowKind.Own.nil RI _ _) (RowKind.Own.nil RI _ _) hb1)
      clear hb1 HS HF
      go_wp2
      exact HX.out
  · have hN := Lib.hid (HL.out rfl)
    clear HL HE HN HS HT3 HT4
    generalize xs.length = n1 at *
    generalize ys.length = n2 at *
    go_enter Tryz.func87, Tryz.ntmps87
    go_wp2_with fail
    refine (HM1.out _ (Below.refl _ _)).mono ?_
    rintro e w1 ⟨u1, rfl, hI1, hc1, hb1⟩
    have HB1 := Lib.hid hb1
    have HTa := Lib.hid (HT1.out w1 u1 hI1)
    obtain ⟨pu, cu, rfl⟩ := hI1.slice
    clear hb1 hI1 hc1 HM1 HT1
    go_wp2_with fail
    refine (HTa.out).mono ?_
    rintro e w2 ⟨u, rfl, hO2, hb2⟩
    have HB2 := Lib.hid (bcall HB1.out hb2 HB1.out.size)
    have HO2 := Lib.hid (hO2.mono HB1.out.size)
    clear hb2 hO2 HTa
    go_wp2_with fail
    refine (HM2.out _ HB2.out).mono ?_
    rintro e w3 ⟨u3, rfl, hI3, hc3, hb3⟩
    have HB3 := Lib.hid (bcall HB2.out hb3 HB2.out.size)
    have HO3 := Lib.hid (HO2.out.below hb3)
    have HTb := Lib.hid (HT2.out w3 u3 hI3)
    obtain ⟨pv, cv, rfl⟩ := hI3.slice
    clear hb3 hI3 hc3 HM2 HT2
    go_wp2_with fail
    refine (HTb.out).mono ?_
    rintro e w4 ⟨v, rfl, hO4, hb4⟩
    have HX := Lib.hid (HF.out w4 u v _ _ hN.out (HO3.out.below hb4) (hO4.mono HB3.out.size) (bcall HB3.out hb4 HB3.out.size))
    clear hb4 hO4 HTb HF
    go_wp2
    exact HX.out
end Go.Proofs.YthhceggcdaljdaaGreat
/- the program's: the bags of which a slot is made; Apply over them; Make as plain facts -/
namespace Go.Proofs.YthhceggcdaljdaaGreat
open Go.RowKit
set_option linter.unusedVariables false
set_option linter.unusedSimpArgs false

/-- two bags in memory, side by side -/
def PortsR (a b : List IV) (w : World) (e : Ending) (w' : World) : Prop := ∃ g o cp va vb, e = .returned (.slice (some ⟨g, o, none⟩) 2 cp) ∧ w'.cell? ⟨g, o, none⟩ = some va ∧ w'.cell? ⟨g, o + 1, none⟩ = some vb ∧ PortA w' va a ∧ PortA w' vb b ∧ Below w.heap.size w w'
theorem apply_ports {k s arg : Int} {q : Option Addr} {c : Nat} {p : List NV} {va vb : Value} {a b : List IV} {g o cp : Nat} {w : World} (hN : NodeA k w q c arg p) (hA : PortA w va a) (hB : PortA w vb b) (g0 : w.cell? ⟨g, o, none⟩ = some va) (g1 : w.cell? ⟨g, o + 1, none⟩ = some vb) :
    Calls Tryz.prog 65 #[.agg #[.int .i64 k, .int .i64 s, .int .i64 arg, .slice q p.length c], .slice (some ⟨g, o, none⟩) 2 cp] w (ApR k arg p (thereI a) (thereI b) w) := by
  have hg : g < w.heap.size := cell_in g0
  refine papply_any k s arg q c p _ 2 cp _ _ w hN.i hN.l hN.n hN.a (Nat.le_trans (there_len a) hA.l) (Nat.le_trans (there_len b) hB.l) (fun x hx => ⟨hA.q x (there_mem x hx).1, (there_mem x hx).2⟩) (fun x hx => ⟨hB.q x (there_mem x hx).1, (there_mem x hx).2⟩) (fun V hV => ?_) (fun V hV => ?_)
  · exact pthere_in a va g o 2 cp 0 V (by have := hA.l; omega) (by decide) (by decide) (Nat.lt_of_lt_of_le hg hV.size) ((hV.cell (p := ⟨g, o, none⟩) hg).trans g0) (hA.i.below hV)
  · exact pthere_in b vb g o 2 cp 1 V (by have := hB.l; omega) (by decide) (by decide) (Nat.lt_of_lt_of_le hg hV.size) ((hV.cell (p := ⟨g, o + 1, none⟩) hg).trans g1) (hB.i.below hV)
/-- the numbers of a bag's records are numbers -/
def inB (l : List IV) : Prop := ∀ i ∈ l, inR i.t.k ∧ inR i.t.v
def inCell (c : List SV) : Prop := ∀ x ∈ c, inB x.a ∧ inB x.b
set_option maxRecDepth 100000 in
set_option maxHeartbeats 8000000 in
theorem pports_one (c : List SV) (v : Value) (i : Nat) (kind : Int) (w : World) (hs : SmallC 100000 c) (h : IsCl w v c) (hi : i < c.length) (hin : inCell c) (hk : ¬ kind = 14) : Calls Tryz.prog 86 #[v, .int .i64 (i : Int), .int .i64 kind] w (PortsR (c[i]!).a (c[i]!).b w) := by
  obtain ⟨xs, hx0, hx1⟩ := h
  obtain ⟨p, k0, rfl, ho⟩ := isOpenedD hx0
  have hxn : xs.length = c.length := hx1.1
  obtain ⟨b, off, rfl, hb, hrow⟩ := ho i (by omega)
  obtain ⟨e0, e1, e2, e3, e4, e5, e6, e7, e8, e9⟩ := atSl hrow i (by omega)
  have hx := hx1.2 i hi
  have hq := hs.2 _ (getElem!_memS hi)
  have hn := hin _ (getElem!_memS hi)
  have HX : Hid (PortsR (c[i]!).a (c[i]!).b w (.returned (.slice (some ⟨b, off + i * 10 + 5, none⟩) 2 2)) w) := ⟨b, off + i * 10 + 5, 2, _, _, rfl, e5, e6, ⟨hx.l0, by omega, hn.1⟩, ⟨hx.l1, by omega, hn.2⟩, Below.refl _ _⟩
  have hk2 : (kind == 14) = false := by simp; exact hk
  have hic : (i : Int) < (xs.length : Int) := by omega
  generalize PortsR (c[i]!).a (c[i]!).b w = R at *
  have hsz : xs.length ≤ 100000 := by have := hs.1; omega
  clear e0 e1 e2 e3 e4 e7 e8 e9 hx hq hn hrow ho hx0 hx1 hs hin hk hxn
  go_enter Tryz.func86, Tryz.ntmps86
  go_wp2
  exact HX.out
/-! ### Make, plain -/
def madeS (x : SV) (l : List IV) : SV := ⟨x.t, x.a, x.b, l, false, true⟩
def makeL (c : List SV) (t : TV) (x : SV) (l : List IV) : List SV := if (madeS x l).empty = true then c.filter (fun y => decide (y.t ≠ t)) else c.map (fun y => if y.t = t then madeS x l else y)
def nowO (kind arg : Int) (p : List NV) (sec : SV → List IV) (x : SV) : List IV × Bool := applyO kind arg p (thereI x.a) (thereI (sec x))
/-- the slot that is made anew, if one is -/
def makeX (c : List SV) (t : TV) (kind arg : Int) (p : List NV) (sec : SV → List IV) : Option SV := if rightSl c = true then (match lookS c t with
  | none => none
  | some x => if x.dirty = true ∧ (nowO kind arg p sec x).2 = true then some x else none) else none
def makeF (c : List SV) (t : TV) (kind arg : Int) (p : List NV) (sec : SV → List IV) (lazy : Bool) : List SV × (List IV × List IV) := match makeX c t kind arg p sec with
  | none => (c, ([], []))
  | some x => (makeL c t x (nowO kind arg p sec x).1, takeG x.s (nowO kind arg p sec x).1 lazy)
def MakeR (c : List SV) (t : TV) (kind arg : Int) (p : List NV) (sec : SV → List IV) (lazy : Bool) (w : World) (e : Ending) (w' : World) : Prop := ∃ u a b, e = .returned (.tuple #[u, a, b, .bool (makeX c t kind arg p sec).isSome]) ∧ IsCl w' u (makeF c t kind arg p sec lazy).1 ∧ capOk u ∧ RI.Own w.heap.size w' a (makeF c t kind arg p sec lazy).2.1 ∧ RI.Own w.heap.size w' b (makeF c t kind arg p sec lazy).2.2 ∧ Below w.heap.size w w'
theorem make_no {c : List SV} {t : TV} {kind arg : Int} {p : List NV} {sec : SV → List IV} {lazy : Bool} {w w' : World} {u : Value} (h : makeX c t kind arg p sec = none) (hi : IsCl w' u c) (hc : capOk u) (hb : Below w.heap.size w w') : MakeR c t kind arg p sec lazy w (.returned (.tuple #[u, .slice none 0 0, .slice none 0 0, .bool false])) w' := by
  have e : makeF c t kind arg p sec lazy = (c, ([], [])) := by unfold makeF; rw [h]
  exact ⟨u, _, _, by rw [h]; rfl, by rw [e]; exact hi, hc, by rw [e]; exact RowKind.Own.nil RI _ _, by rw [e]; exact RowKind.Own.nil RI _ _, hb⟩
theorem make_yes {c : List SV} {t : TV} {kind arg : Int} {p : List NV} {sec : SV → List IV} {lazy : Bool} {w w' : World} {u a b : Value} {x : SV} {l : List IV} {d : List SV} {tg : List IV × List IV} (h : makeX c t kind arg p sec = some x) (hl : l = (nowO kind arg p sec x).1) (hd : d = makeL c t x l) (ht : tg = takeG x.s l lazy) (hi : IsCl w' u d) (hc : capOk u) (ha : RI.Own w.heap.size w' a tg.1) (hb : RI.Own w.heap.size w' b tg.2) (hw : Below w.heap.size w w') : MakeR c t kind arg p sec lazy w (.returned (.tuple #[u, a, b, .bool true])) w' := by
  have e : makeF c t kind arg p sec lazy = (d, tg) := by unfold makeF; rw [h, hd, ht, hl]
  exact ⟨u, a, b, by rw [h]; rfl, by rw [e]; exact hi, hc, by rw [e]; exact ha, by rw [e]; exact hb, hw⟩
theorem makeX_right {c : List SV} {t : TV} {kind arg : Int} {p : List NV} {sec : SV → List IV} (h : rightSl c = false) : makeX c t kind arg p sec = none := by
  unfold makeX; rw [if_neg (by rw [h]; decide)]
theorem makeX_look {c : List SV} {t : TV} {kind arg : Int} {p : List NV} {sec : SV → List IV} (h : lookS c t = none) : makeX c t kind arg p sec = none := by
  unfold makeX; rw [h]; split <;> rfl
theorem makeX_dirty {c : List SV} {t : TV} {kind arg : Int} {p : List NV} {sec : SV → List IV} {x : SV} (h : lookS c t = some x) (hd : x.dirty = false) : makeX c t kind arg p sec = none := by
  unfold makeX; rw [h]; simp [hd]
theorem makeX_room {c : List SV} {t : TV} {kind arg : Int} {p : List NV} {sec : SV → List IV} {x : SV} (h : lookS c t = some x) (hd : (nowO kind arg p sec x).2 = false) : makeX c t kind arg p sec = none := by
  unfold makeX; rw [h]; simp [hd]
theorem makeX_yes {c : List SV} {t : TV} {kind arg : Int} {p : List NV} {sec : SV → List IV} {x : SV} (hr : rightSl c = true) (h : lookS c t = some x) (hd : x.dirty = true) (hn : (nowO kind arg p sec x).2 = true) : makeX c t kind arg p sec = some x := by
  unfold makeX; rw [if_pos hr, h]; simp [hd, hn]
/-- what the program does at a place -/
theorem make_steps {c : List SV} (hc : GoodSl c) {t : TV} {k : Nat} (hk : k < c.length) (ht : (c[k]!).t = t) (l : List IV) :
    (if (((c.set k (madeS c[k]! l))[k]!).empty = true) then (c.set k (madeS c[k]! l)).eraseIdx k else c.set k (madeS c[k]! l)) = makeL c t c[k]! l := by
  rw [getElem!_set_self _ _ _ hk]
  generalize hy : madeS c[k]! l = y
  have e : c = c.take k ++ c[k]! :: c.drop (k + 1) := by rw [getElem!_pos c k hk, ← List.drop_eq_getElem_cons hk, List.take_append_drop]
  have hl : (c.take k).length = k := by rw [List.length_take]; omega
  have hA : ∀ x ∈ c.take k, x.t ≠ t := fun x hx e2 => by
    obtain ⟨j, hj, rfl⟩ := List.mem_iff_getElem.1 hx
    rw [hl] at hj
    have q := List.pairwise_iff_getElem.1 hc.2 j k (by omega) hk hj
    rw [List.getElem_take, ← ht, getElem!_pos c k hk] at e2
    exact lt_ne q e2
  have hB : ∀ x ∈ c.drop (k + 1), x.t ≠ t := fun x hx e2 => by
    obtain ⟨j, hj, rfl⟩ := List.mem_iff_getElem.1 hx
    rw [List.length_drop] at hj
    have q := List.pairwise_iff_getElem.1 hc.2 k (k + 1 + j) hk (by omega) (by omega)
    rw [List.getElem_drop, ← ht, getElem!_pos c k hk] at e2
    exact lt_ne q e2.symm
  unfold makeL
  rw [hy]
  generalize c[k]! = x at *
  generalize c.take k = A at *
  generalize c.drop (k + 1) = B at *
  subst e
  rw [mid_set hl]
  have f1 : A.filter (fun y => decide (y.t ≠ t)) = A := List.filter_eq_self.2 fun x hx => by simpa using hA x hx
  have f2 : B.filter (fun y => decide (y.t ≠ t)) = B := List.filter_eq_self.2 fun x hx => by simpa using hB x hx
  have m1 : A.map (fun z => if z.t = t then y else z) = A := (List.map_congr_left fun x hx => by rw [if_neg (hA x hx)]; exact (id_eq x).symm).trans (List.map_id A)
  have m2 : B.map (fun z => if z.t = t then y else z) = B := (List.map_congr_left fun x hx => by rw [if_neg (hB x hx)]; exact (id_eq x).symm).trans (List.map_id B)
  split
  · rw [List.filter_append, List.filter_cons_of_neg (by simp [ht]), f1, f2, List.eraseIdx_append_of_length_le (by omega), hl, Nat.sub_self]
    rfl
  · rw [List.map_append, List.map_cons, m1, m2, if_pos ht]
end Go.Proofs.YthhceggcdaljdaaGreat
