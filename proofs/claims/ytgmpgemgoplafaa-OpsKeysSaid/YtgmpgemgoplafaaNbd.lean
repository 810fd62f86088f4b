/- bags of records, as the laws of layer 11 want them -/
import Derived.Test.YtgmpgemgoplafaaG41
import Derived.Test.YtgmpgemgoplafaaG10
import Derived.Test.YtgmpgemgoplafaaG44
namespace Go.Proofs.Ytgmpgemgoplafaa
open Go.RowKit
set_option linter.unusedVariables false
set_option linter.unusedSimpArgs false

theorem good_at {l : List IV} (hg : goodI l) : ∀ c ∈ l, atS l c.t = c.n := by
  induction l with
  | nil => intro c hc; cases hc
  | cons d l ih =>
    intro c hc
    rw [atS_cons]
    rcases List.mem_cons.1 hc with rfl | hc
    · rw [if_pos rfl, atS_head hg]; omega
    · have hlt := good_low hg c hc
      rw [if_neg (fun e => by rw [e] at hlt; exact absurd hlt (by simp [RV.lt])), ih (good_tail hg) c hc]
      omega
theorem at_mem {f : List IV} {u : RV} (h : atS f u ≠ 0) : ∃ c ∈ f, c.t = u := by
  refine Classical.byContradiction fun hn => h (atS_zero fun c hc e => hn ⟨c, hc, e⟩)
theorem cnt_mem {L : List RV} {u : RV} (h : cntR L u ≠ 0) : u ∈ L := by
  induction L with
  | nil => exact absurd rfl h
  | cons x L ih =>
    by_cases e : x = u
    · exact e ▸ List.mem_cons_self
    · refine List.mem_cons_of_mem _ (ih ?_)
      simpa [cntR, e] using h
/-- a bag of at most so many records, each there -/
structure BagQ (C : List IV) (m : Int) : Prop where
  g : goodI C
  p : ∀ x ∈ C, 0 < x.n
  m : manyO C ≤ m
  q : ∀ x ∈ C, inR x.t.k ∧ inR x.t.v
theorem BagQ.len {C : List IV} {m : Int} (h : BagQ C m) : (C.length : Int) ≤ m := Int.le_trans (manyO_len h.p) h.m
theorem BagQ.there {C : List IV} {m : Int} (h : BagQ C m) : thereI C = C := by
  unfold thereI
  rw [if_pos ((rightI_iff C).2 h.g)]
  unfold posI
  exact List.filter_eq_self.2 fun x hx => decide_eq_true (h.p x hx)
theorem bagQ_of {L : List RV} (hl : L.length ≤ 60) (hq : ∀ x ∈ L, inR x.k ∧ inR x.v) : BagQ (ofI L) 60 := by
  have h1 := of_pos (xs := L) (by omega)
  have h2 := ofI_is (xs := L) (by omega)
  refine ⟨h2.1, h1.1, by rw [h1.2]; omega, fun x hx => hq _ (cnt_mem ?_)⟩
  have e := good_at h2.1 x hx
  rw [h2.2.1] at e
  have := h1.1 x hx
  omega
theorem bagQ_plus {C D : List IV} {m n : Int} (hC : BagQ C m) (hD : BagQ D n) (hs : m + n ≤ 65536) : BagQ (plusI C D) (m + n) := by
  have bc := fun u => atS_le_many hC.p u
  have bd := fun u => atS_le_many hD.p u
  have mc := hC.m
  have md := hD.m
  have P := plus_at hC.g hD.g fun u => by have := bc u; have := bd u; omega
  have hpos : ∀ x ∈ plusI C D, 0 < x.n := good_pos P.1 fun u => by rw [P.2, atS_append]; have := bc u; have := bd u; omega
  refine ⟨P.1, hpos, by rw [manyO_ext P.2, manyO_append]; omega, fun x hx => ?_⟩
  have e := good_at P.1 x hx
  rw [P.2] at e
  have hx0 := hpos x hx
  obtain ⟨c, hc, ht⟩ := at_mem (f := C ++ D) (u := x.t) (by omega)
  rw [← ht]
  rcases List.mem_append.1 hc with h | h
  · exact hC.q c h
  · exact hD.q c h
theorem BagQ.port {C : List IV} {m : Int} (h : BagQ C m) (hm : m ≤ 65536) {w : World} {v : Value} (hi : RI.Is w v C) : PortA w v C := ⟨hi, by have := h.len; omega, h.q⟩
theorem cutRowO {α : Type} [Inhabited α] {R : RowKind α} {w : World} {v : Value} {xs : List α} (ha : R.Is w v xs) (ca : capOk v) (b : Nat) (hb : 0 < b) :
    ∃ (p : Option Addr) (n m c : Nat), v = .slice p n c ∧ imin (n : Int) (b : Int) = (m : Int) ∧ m ≤ n ∧ m ≤ c ∧ m ≤ b ∧ (xs.take m).length ≤ b ∧ R.Is w (.slice p m c) (xs.take m) := by
  obtain ⟨p1, c1, rfl⟩ := ha.slice
  have k1 := ca _ _ _ rfl
  obtain ⟨m1, e1, l1, h1, z1⟩ := cutTo b xs.length hb
  exact ⟨p1, xs.length, m1, c1, rfl, e1, l1, by omega, h1, by rw [List.length_take]; omega, ha.cut m1 l1 z1⟩
theorem apply_len (k arg : Int) (p : List NV) {C : List IV} {m : Int} (h : BagQ C m) : (applyO k arg p C []).1.length ≤ 65536 := by
  have h1 := applyO_right (k := k) (arg := arg) (p := p) (a := C) (b := []) h.p (fun x hx => by cases hx)
  have h2 := manyO_len h1.2.1
  have h3 := h1.2.2.1
  omega
/-- Apply of one bag with these answers -/
theorem apply_bag {k s arg : Int} {q : Option Addr} {c : Nat} {p : List NV} {w : World} (hN : NodeA k w q c arg p) {C : List IV} {m : Int} (hC : BagQ C m) (hm : m ≤ 65536) (hok : (applyO k arg p C []).2 = true) :
    ∀ W g u, Below w.heap.size w W → RI.Is W u C → W.cell? ⟨g, 0, none⟩ = some u → Calls Try.prog 10 #[.agg #[.int .i64 k, .int .i64 s, .int .i64 arg, .slice q p.length c], .slice (some ⟨g, 0, none⟩) 1 1] W
      (fun e W' => ∃ v, e = .returned (.tuple #[v, .bool true]) ∧ RI.Own W.heap.size W' v (applyO k arg p C []).1 ∧ Below W.heap.size W W') := fun W g u hW hu hg => by
  have h := apply_one (k := k) (s := s) (hN.below hW) (hC.port hm hu) hg
  refine h.mono ?_
  rintro e W' ⟨v, rfl, hO, hb⟩
  rw [hC.there] at hO ⊢
  rw [hok]
  exact ⟨v, rfl, hO, hb⟩
end Go.Proofs.Ytgmpgemgoplafaa
