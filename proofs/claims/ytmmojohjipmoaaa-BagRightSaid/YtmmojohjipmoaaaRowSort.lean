/- the library's sort over rows of any kind, by an order of all elements -/
import Derived.Test.YtmmojohjipmoaaaBase
import Derived.Test.YtmmojohjipmoaaaRow
import Derived.Shelf.SlSortCmp.NoneTotal
import Derived.Sort.Grow
namespace Go.Proofs.Ytmmojohjipmoaaa
open Go.RowKit Go.Sort Go.Shelf
set_option linter.unusedVariables false
set_option linter.unusedSimpArgs false

theorem grow_of_below {w w' : World} (h : Below w.heap.size w w') (hd : w.drawn ≤ w'.drawn) : ∃ q os', w' = grow (w.drewN q) os' := by
  refine ⟨w'.drawn - w.drawn, w'.heap.extract w.heap.size w'.heap.size, ?_⟩
  obtain ⟨h1, h2, h3, h4, h5⟩ := h
  obtain ⟨hp, tp, dr, os, out⟩ := w
  obtain ⟨hp', tp', dr', os', out'⟩ := w'
  simp only at h1 h2 h3 h4 h5 hd
  subst h1 h2 h3
  unfold grow World.drewN
  simp only [World.mk.injEq, true_and, and_true]
  refine ⟨?_, by omega⟩
  refine Array.ext_getElem? fun i => ?_
  rw [Array.getElem?_append]
  split
  · exact h5 i (by assumption)
  · rename_i hi
    rw [Array.getElem?_extract]
    split
    · congr 1; omega
    · rw [Array.getElem?_eq_none (by omega)]
section
variable {α : Type} [Inhabited α] {R : RowKind α}
theorem flat_cellsK (d : Array α) : (flatK R.enc R.k d).toList = R.cells d.toList := by
  refine List.ext_getElem? fun t => ?_
  have hk := R.k0
  by_cases ht : t < d.size * R.k
  · have e : t = t / R.k * R.k + t % R.k := by rw [Nat.mul_comm]; exact (Nat.div_add_mod t R.k).symm
    have hm := Nat.mod_lt t hk
    have hq : t / R.k < d.toList.length := Nat.div_lt_of_lt_mul (by rw [Nat.mul_comm]; simpa using ht)
    have h1 := R.cells_get d.toList (t / R.k) hq (t % R.k) hm
    rw [← e] at h1
    rw [h1]
    have h2 := get_flatK R.enc R.k d t ht
    have hs : t < (flatK R.enc R.k d).toList.length := by simpa using ht
    have hd : t / R.k < d.size := by simpa using hq
    have hp : d.toList[t / R.k]! = d[t / R.k]! := by simp [hd]
    rw [List.getElem?_eq_getElem hs, hp]
    rw [getElem!_pos (flatK R.enc R.k d) t (by simpa using ht)] at h2
    rw [Array.getElem_toList, h2]
    have h5 : t % R.k < (R.enc d[t / R.k]!).length := by rw [R.len]; exact hm
    rw [List.getElem?_eq_getElem h5]
    show some ((R.enc d[t / R.k]!)[t % R.k]!) = _
    rw [getElem!_pos (R.enc d[t / R.k]!) (t % R.k) h5]
  · rw [List.getElem?_eq_none (by simp; omega), List.getElem?_eq_none (by rw [R.cells_len]; simp; omega)]
theorem holds_ownK {B g cap : Nat} {w : World} {d : Array α} (h : R.Own B w (.slice (some ⟨g, 0, none⟩) d.toList.length cap) d.toList) : HoldsK R.enc R.k w g 0 d := by
  intro j hj
  rw [size_flatK] at hj
  have h1 := World.ownsRow.cellAt h j (by simpa using hj)
  have h2 := World.ownsRow.frozenAt h j
  have hf := flat_cellsK (R := R) d
  have hs : j < (flatK R.enc R.k d).size := by simpa using hj
  refine ⟨?_, by rw [Nat.zero_add]; exact h2⟩
  rw [Nat.zero_add, h1, ← hf, getElem!_pos (flatK R.enc R.k d) j hs]
  simp [hs]
theorem put_takeK (F cur : Array Value) (h : F.size ≤ cur.size) : (putCells id 0 F cur).toList.take F.size = F.toList := by
  refine List.ext_getElem? fun k => ?_
  rw [List.getElem?_take]
  split
  · rename_i hk
    have hc : k < cur.size := by omega
    simp [putCells, hk, hc]
  · rename_i hk
    rw [List.getElem?_eq_none (by simpa using hk)]
theorem own_putK {B g cap : Nat} {w : World} {xs : List α} (h : R.Own B w (.slice (some ⟨g, 0, none⟩) xs.length cap) xs) {d' : Array α} (hl : d'.size = xs.length) (n : Nat) (os : Array Obj) :
    R.Own B (sortWorldK R.enc R.k w g 0 n d' os) (.slice (some ⟨g, 0, none⟩) xs.length cap) d'.toList ∧ Below B w (sortWorldK R.enc R.k w g 0 n d' os) := by
  obtain ⟨h1, h2⟩ := h
  rcases h2 with ⟨e, _⟩ | ⟨g', cap', cur, e, hB, hg, hc, hm, hs, ht⟩
  · cases e
  · simp only [Value.slice.injEq, Option.some.injEq, Addr.mk.injEq, and_true, true_and] at e
    obtain ⟨e1, e2⟩ := e
    subst e1; subst e2
    have hlt : g < w.heap.size := (Array.getElem?_eq_some_iff.1 hg).1
    have hgrow : ∀ k, k < w.heap.size → (sortWorldK R.enc R.k w g 0 n d' os).heap[k]? = (w.heap.modify g (onCells (putCells id 0 (flatK R.enc R.k d'))))[k]? := by
      intro k hk
      show ((w.heap.modify g (onCells (putCells id 0 (flatK R.enc R.k d')))) ++ os)[k]? = _
      rw [Array.getElem?_append_left (by simpa using hk)]
    have hcell : (sortWorldK R.enc R.k w g 0 n d' os).heap[g]? = some (.cells (putCells id 0 (flatK R.enc R.k d') cur) R.tE (0, 0)) := by
      rw [hgrow g hlt, Array.getElem?_modify, if_pos rfl, hg]
      rfl
    have hpl : d'.toList.length = xs.length := by simpa using hl
    refine ⟨⟨R.cells_len _, .inr ⟨g, cap, putCells id 0 (flatK R.enc R.k d') cur, by rw [hpl], hB, hcell, by rw [hpl]; exact hc, hm, by simp [putCells, hs], ?_⟩⟩, rfl, rfl, rfl, ?_, ?_⟩
    · rw [← flat_cellsK, hpl]
      have hz : xs.length * R.k = (flatK R.enc R.k d').size := by simp [hl]
      rw [hz]
      refine put_takeK _ _ ?_
      rw [← hz, hs]
      exact Nat.mul_le_mul_right _ hc
    · show w.heap.size ≤ ((w.heap.modify g (onCells (putCells id 0 (flatK R.enc R.k d')))) ++ os).size
      simp
    · intro k hk
      rw [hgrow k (by omega), Array.getElem?_modify, if_neg (by omega)]
/-- the sort of a row of the call's own -/
theorem sort_ownK {ρ : Go.Shelf.Ren} (L : Go.Proofs.SlLaysF0.n6 Try.prog ρ) (aE : ∀ w, (isAgg (ρ.t 24)).run Try.prog w = .ok true w) (zE : ∀ w, (Go.sizeOf (ρ.t 24)).run Try.prog w = .ok R.k w) (cf : α → α → Int) (hO : SWO (ltOf cf)) (fc : Nat)
    (eg : ∀ args w, (callFunc fc args).run Try.prog w = .ok (.enter fc args) w) (hC : ∀ blk off size w, CmpLays Try.prog fc #[] R.enc R.k cf blk off size w)
    (B : Nat) (v : Value) (xs : List α) (w : World) (hown : R.Own B w v xs) (hB : B ≤ w.heap.size) (hlen : xs.length ≤ 900000) :
    Calls Try.prog (ρ.f 6) #[v, .func (.func fc) #[] #[]] w (fun e w' => e = .returned (.tuple #[]) ∧ ∃ ys : List α, ys.Perm xs ∧ ys.Pairwise (fun x y => ltOf cf y x = false) ∧ R.Own B w' v ys ∧ Below B w w') := by
  have hk := hown
  rcases hk.2 with ⟨e, hn⟩ | ⟨g, cap, cur, e, _, hg, _⟩
  · obtain rfl : xs = [] := List.length_eq_zero_iff.1 hn
    subst e
    refine (AnyF.slices_SortFunc_none L none 0 _ w).mono ?_
    rintro e w' ⟨rfl, rfl⟩
    exact ⟨rfl, [], List.Perm.refl _, List.Pairwise.nil, hown, Below.refl _ _⟩
  · subst e
    obtain ⟨d, rfl⟩ : ∃ d : Array α, xs = d.toList := ⟨xs.toArray, rfl⟩
    have hsl : d.size < 4611686018427387904 := by
      have e : d.toList.length = d.size := by simp
      omega
    have hcon := AnyQ.slices_SortFunc L R.k aE zE R.enc R.len R.one cf hO fc #[] g 0 cap d w eg (hC g 0 d.size w) (holds_ownK hown) (Array.getElem?_eq_some_iff.1 hg).1 hsl
    have hsz : d.toList.length = d.size := by simp
    rw [hsz]
    refine Calls.mono hcon ?_
    rintro e w' ⟨rfl, d', n, os, hp, hs, rfl⟩
    have hl : d'.size = d.toList.length := by rw [hp.1, hsz]
    have hq := own_putK hown hl n os
    rw [hsz] at hq
    refine ⟨rfl, d'.toList, ?_, ?_, hq.1, hq.2⟩
    · have h3 := hp.2.2
      rw [Array.extract_size, show d.size = d'.size by rw [hl, hsz], Array.extract_size] at h3
      simpa using h3
    · rw [List.pairwise_iff_getElem]
      intro i j hi hj hij
      have hi' : i < d'.size := by simpa using hi
      have hj' : j < d'.size := by simpa using hj
      have h4 := hs i j (Nat.zero_le _) hij (by omega)
      rw [getElem!_pos d' i hi', getElem!_pos d' j hj'] at h4
      simpa using h4
end
end Go.Proofs.Ytmmojohjipmoaaa
