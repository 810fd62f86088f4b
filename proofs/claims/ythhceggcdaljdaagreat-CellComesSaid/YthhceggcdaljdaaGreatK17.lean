/- ofEach, ofKeys: what they hand back is an iterator -/
import Derived.Test.YthhceggcdaljdaaGreatK11
import Derived.Test.YthhceggcdaljdaaGreatK16
import Derived.Test.YthhceggcdaljdaaGreatG18
import Derived.Test.YthhceggcdaljdaaGreatG02
import Derived.Test.YthhceggcdaljdaaGreatG17
import Derived.Shelf.SlSortCmp.NoneTotal
import Derived.Sort.Grow
import Derived.Test.YthhceggcdaljdaaGreatK15
import Derived.Test.YthhceggcdaljdaaGreatG06
import Derived.Laws.AppendOwn
namespace Go.Proofs.YthhceggcdaljdaaGreat
open Go.RowKit Go.Shelf
attribute [local go_sem] Oper.semAt_some
set_option linter.unusedVariables false
set_option linter.unusedSimpArgs false

/-- a row of one's own is kept, where its block is none of the three -/
theorem KpL.ownK {α : Type} {R : RowKind α} {Br Bl B0 : Nat} {A B : World} (h : KpL Br Bl A B) {v : Value} {L : List α} (ho : R.Own B0 A v L) (ha : ∀ g, v.ownBlock = some g → g ≠ Br ∧ g ≠ Bl ∧ rowPtr A Bl ≠ some g) : R.Own B0 B v L := by
  obtain ⟨h1, ⟨rfl, h0⟩ | ⟨g, cap, cur, rfl, hB, hg, rest⟩⟩ := ho
  · exact ⟨h1, .inl ⟨rfl, h0⟩⟩
  · have q := ha g rfl
    exact ⟨h1, .inr ⟨g, cap, cur, rfl, hB, h.keep hg q.1 q.2.1 q.2.2, rest⟩⟩
theorem ofEach_nil (Kp : World → World → Prop) (Bb Bx k : Nat) (pz : Option Addr) (cap : Nat) (arg : Int) (p : List NV) (w : World) (hb : w.cell? ⟨Bb, 0, none⟩ = some (.slice pz 0 cap)) (kk : Int) :
    Iter Tryz.prog 181 #[.pointer (some ⟨Bb, 0, none⟩), .pointer (some ⟨Bx, 0, none⟩)] encO Kp (eachP kk arg p []) w := fun l J Jx W hW hJ hJx hY hj => by
  have hc0 := (hW.cell (p := ⟨Bb, 0, none⟩) (cell_in hb)).trans hb
  refine (callsIn_wide (n := 3)).1 ?_
  refine callsIn_of_wp Tryz.func181 rfl trivial ?_ rfl
  simp only [Tryz.ntmps181, List.size_toArray, List.length_cons, List.length_nil, Nat.reduceAdd, Nat.reduceSub, Array.replicate_succ, Array.replicate_zero, List.push_toArray, List.append_toArray, List.nil_append, List.cons_append]
  gi_wp2
  gi_loopw [11] (fun i wr => i = .int .i64 0 ∧ J [] wr) (fun i _ => 0)
  case atStart => exact ⟨rfl, hj⟩
  case round =>
    obtain ⟨rfl, hJs⟩ := hrel
    gi_wp2
    go_end0
    exact ⟨⟨_, rfl⟩, .inl hJs⟩
set_option maxRecDepth 100000 in
set_option maxHeartbeats 4000000 in
theorem ofEach_gives {Kp : World → World → Prop} (Br Bl : Nat) (hKp : ∀ A B, Kp A B → KpL Br Bl A B) (k s arg : Int) (q : Option Addr) (c : Nat) (p : List NV) (xs : List IV) (v : Value) (w : World) (hlB : Bl < w.heap.size) (hrB : Br < w.heap.size) (hptr : ∀ g, rowPtr w Bl = some g → g < w.heap.size)
    (hl : xs.length ≤ 900000) (hpl : k = 2 → p.length ≤ 900000) (hpn : ∀ x ∈ p, inR x.n) (ha : inR arg) (hq : ∀ c ∈ xs, inR c.t.k ∧ inR c.t.v)
    (hu : ∀ W', KpL Br Bl w W' → RI.Is W' v xs ∧ RC.Is W' (.slice q p.length c) p) :
    Calls Tryz.prog 137 #[.agg #[.int .i64 k, .int .i64 s, .int .i64 arg, .slice q p.length c], v] w (GivesI Kp (eachP k arg p xs) w) := by
  have hw0 := (hu w (KpL.refl _ _ _)).1
  obtain ⟨pz, cz, rfl⟩ := hw0.slice
  have HI : Hid (GivesI Kp (eachP k arg p xs) w (.returned (.func (.func 181) #[] #[.pointer (some ⟨w.heap.size + 1, 0, none⟩), .pointer (some ⟨w.heap.size, 0, none⟩)]))
      ((w.alloc (.cells #[.int .i64 k, .int .i64 s, .int .i64 arg, .slice q p.length c] 47)).alloc (.cells #[.slice pz xs.length cz] 37))) := by
    have hbl : Below w.heap.size w ((w.alloc (.cells #[.int .i64 k, .int .i64 s, .int .i64 arg, .slice q p.length c] 47)).alloc (.cells #[.slice pz xs.length cz] 37)) :=
      ((Below.refl _ w).alloc (Nat.le_refl _) _).alloc (by simp) _
    have e1 := heap_old (World.alloc_heap_new w (.cells #[.int .i64 k, .int .i64 s, .int .i64 arg, .slice q p.length c] 47)) (.cells #[.slice pz xs.length cz] 37)
    have e2 := heap_new (w.alloc (.cells #[.int .i64 k, .int .i64 s, .int .i64 arg, .slice q p.length c] 47)) (.cells #[.slice pz xs.length cz] 37) (w.heap.size + 1) (by simp)
    refine ⟨_, _, rfl, hbl, fun args W => enters_of Tryz.func181 (by kernel_rfl) rfl args W, ?_⟩
    generalize (w.alloc (.cells #[.int .i64 k, .int .i64 s, .int .i64 arg, .slice q p.length c] 47)).alloc (.cells #[.slice pz xs.length cz] 37) = W0 at *
    have hp := below_ptr (Br := Br) hbl hlB hptr
    have hs := hbl.size
    by_cases h0 : 0 < xs.length
    · obtain ⟨b, off, rfl, hb, hrow⟩ := is_row' hw0 h0
      refine ofEach_row Br Bl _ _ hKp k s arg q c p xs b off cz W0 (Nat.lt_of_lt_of_le hlB hs) (Nat.lt_of_lt_of_le hrB hs) (fun g e => Nat.lt_of_lt_of_le (hp g e) hs) hl hpl hpn ha hq fun W hk => ?_
      have k' := (KpL.of_below hbl hlB).trans hk
      have f1 := hk.keep e1 (by omega) (by omega) (fun e => by have := hp _ e; omega)
      have f2 := hk.keep e2 (by omega) (by omega) (fun e => by have := hp _ e; omega)
      have hq2 := hu W k'
      obtain ⟨hbW, hrW⟩ := is_row hq2.1 h0
      exact ⟨⟨cells_of f2 rfl, cells_of f1 rfl, cells_of f1 rfl, cells_of f1 rfl, cells_of f1 rfl⟩, hrW, hbW, hq2.2⟩
    · obtain rfl : xs = [] := List.eq_nil_of_length_eq_zero (by omega)
      exact ofEach_nil Kp _ _ 0 pz cz arg p W0 (cells_of e2 rfl) k
  clear hw0 hu hq hl hpl hpn ha
  go_enter Tryz.func137, Tryz.ntmps137
  go_wp2
  go_returns
  exact HI.out
set_option maxRecDepth 100000 in
set_option maxHeartbeats 4000000 in
theorem ofKeys_gives {Kp : World → World → Prop} (Br Bl : Nat) (hKp : ∀ A B, Kp A B → KpL Br Bl A B) (kind : Int) (a b : List IV) (va vb : Value) (w : World) (hlB : Bl < w.heap.size) (hrB : Br < w.heap.size) (hptr : ∀ g, rowPtr w Bl = some g → g < w.heap.size)
    (hl : a.length ≤ 900000) (hlb : b.length ≤ 900000) (hca : capOk va) (hcb : capOk vb) (hq : ∀ c ∈ a, (inR c.t.k ∧ inR c.t.v) ∧ 0 ≤ c.n ∧ c.n ≤ 2147483648) (hqo : ∀ c ∈ b, (inR c.t.k ∧ inR c.t.v) ∧ 0 ≤ c.n ∧ c.n ≤ 2147483648)
    (hu : ∀ W', KpL Br Bl w W' → RI.Is W' va a ∧ RI.Is W' vb b) :
    Calls Tryz.prog 139 #[.int .i64 kind, va, vb] w (GivesI Kp (byKeysL kind a b) w) := by
  have hw0 := hu w (KpL.refl _ _ _)
  obtain ⟨pa, ca, rfl⟩ := hw0.1.slice
  obtain ⟨pb, cb, rfl⟩ := hw0.2.slice
  have HI : Hid (GivesI Kp (byKeysL kind a b) w (.returned (.func (.func 183) #[] #[.pointer (some ⟨w.heap.size + 1, 0, none⟩), .pointer (some ⟨w.heap.size + 1 + 1, 0, none⟩), .pointer (some ⟨w.heap.size, 0, none⟩)]))
      (((w.alloc (.cells #[.int .i64 kind] 3)).alloc (.cells #[.slice pa a.length ca] 37)).alloc (.cells #[.slice pb b.length cb] 37))) := by
    have hbl : Below w.heap.size w (((w.alloc (.cells #[.int .i64 kind] 3)).alloc (.cells #[.slice pa a.length ca] 37)).alloc (.cells #[.slice pb b.length cb] 37)) :=
      (((Below.refl _ w).alloc (Nat.le_refl _) _).alloc (by simp) _).alloc (by simp; omega) _
    have e1 := heap_old (heap_old (World.alloc_heap_new w (.cells #[.int .i64 kind] 3)) (.cells #[.slice pa a.length ca] 37)) (.cells #[.slice pb b.length cb] 37)
    have e2 := heap_old (heap_new (w.alloc (.cells #[.int .i64 kind] 3)) (.cells #[.slice pa a.length ca] 37) (w.heap.size + 1) (by simp)) (.cells #[.slice pb b.length cb] 37)
    have e3 := heap_new ((w.alloc (.cells #[.int .i64 kind] 3)).alloc (.cells #[.slice pa a.length ca] 37)) (.cells #[.slice pb b.length cb] 37) (w.heap.size + 1 + 1) (by simp)
    refine ⟨_, _, rfl, hbl, fun args W => enters_of Tryz.func183 (by kernel_rfl) rfl args W, ?_⟩
    generalize ((w.alloc (.cells #[.int .i64 kind] 3)).alloc (.cells #[.slice pa a.length ca] 37)).alloc (.cells #[.slice pb b.length cb] 37) = W0 at *
    have hp := below_ptr (Br := Br) hbl hlB hptr
    have hs := hbl.size
    refine ofKeys_iter Br Bl _ _ _ hKp kind a b _ _ W0 (Nat.lt_of_lt_of_le hlB hs) (Nat.lt_of_lt_of_le hrB hs) (fun g e => Nat.lt_of_lt_of_le (hp g e) hs) hl hlb hca hcb hq hqo fun W hk => ?_
    have k' := (KpL.of_below hbl hlB).trans hk
    have f1 := hk.keep e1 (by omega) (by omega) (fun e => by have := hp _ e; omega)
    have f2 := hk.keep e2 (by omega) (by omega) (fun e => by have := hp _ e; omega)
    have f3 := hk.keep e3 (by omega) (by omega) (fun e => by have := hp _ e; omega)
    exact ⟨⟨cells_of f2 rfl, cells_of f3 rfl, cells_of f1 rfl⟩, hu W k'⟩
  clear hw0 hu hq hqo hl hlb hca hcb
  go_enter Tryz.func139, Tryz.ntmps139
  go_wp2
  go_returns
  exact HI.out
end Go.Proofs.YthhceggcdaljdaaGreat
/- the library's sort over rows of any kind, by an order of all elements -/
namespace Go.Proofs.YthhceggcdaljdaaGreat
open Go.RowKit Go.Sort Go.Shelf
set_option linter.unusedVariables false
set_option linter.unusedSimpArgs false

section
variable {α : Type} [Inhabited α] {R : RowKind α}
theorem flat_cellsK (d : Array α) : (flatK R.enc R.k d).toList = R.cells d.toList := by
  refine List.ext_getElem? fun t => ?_
  have hk := R.k0
  by_cases ht : t < d.size * R.k
  · have e : t = t / R.k * R.k + t % R.k := by rw [Nat.mul_comm]; exact (Nat.div_add_mod t R.k).symm
    have hm := Nat.mod_lt t hk
    have hq : t / R.k < d.toList.length := Nat.div_lt_of_lt_mul (by rw [Nat.mul_comm]; simpa using ht)
    have h1 := R.cells_get d.toList (t / R.k) hq (t % R.k) hm
    rw [← e] at h1
    rw [h1]
    have h2 := get_flatK R.enc R.k d t ht
    have hs : t < (flatK R.enc R.k d).toList.length := by simpa using ht
    have hd : t / R.k < d.size := by simpa using hq
    have hp : d.toList[t / R.k]! = d[t / R.k]! := by simp [hd]
    rw [List.getElem?_eq_getElem hs, hp]
    rw [getElem!_pos (flatK R.enc R.k d) t (by simpa using ht)] at h2
    rw [Array.getElem_toList, h2]
    have h5 : t % R.k < (R.enc d[t / R.k]!).length := by rw [R.len]; exact hm
    rw [List.getElem?_eq_getElem h5]
    show some ((R.enc d[t / R.k]!)[t % R.k]!) = _
    rw [getElem!_pos (R.enc d[t / R.k]!) (t % R.k) h5]
  · rw [List.getElem?_eq_none (by simp; omega), List.getElem?_eq_none (by rw [R.cells_len]; simp; omega)]
theorem holds_ownK {B g cap : Nat} {w : World} {d : Array α} (h : R.Own B w (.slice (some ⟨g, 0, none⟩) d.toList.length cap) d.toList) : HoldsK R.enc R.k w g 0 d := by
  intro j hj
  rw [size_flatK] at hj
  have h1 := World.ownsRow.cellAt h j (by simpa using hj)
  have h2 := World.ownsRow.frozenAt h j
  have hf := flat_cellsK (R := R) d
  have hs : j < (flatK R.enc R.k d).size := by simpa using hj
  refine ⟨?_, by rw [Nat.zero_add]; exact h2⟩
  rw [Nat.zero_add, h1, ← hf, getElem!_pos (flatK R.enc R.k d) j hs]
  simp [hs]
theorem put_takeK (F cur : Array Value) (h : F.size ≤ cur.size) : (putCells id 0 F cur).toList.take F.size = F.toList := by
  refine List.ext_getElem? fun k => ?_
  rw [List.getElem?_take]
  split
  · rename_i hk
    have hc : k < cur.size := by omega
    simp [putCells, hk, hc]
  · rename_i hk
    rw [List.getElem?_eq_none (by simpa using hk)]
theorem own_putK {B g cap : Nat} {w : World} {xs : List α} (h : R.Own B w (.slice (some ⟨g, 0, none⟩) xs.length cap) xs) {d' : Array α} (hl : d'.size = xs.length) (n : Nat) (os : Array Obj) :
    R.Own B (sortWorldK R.enc R.k w g 0 n d' os) (.slice (some ⟨g, 0, none⟩) xs.length cap) d'.toList ∧ Below B w (sortWorldK R.enc R.k w g 0 n d' os) := by
  obtain ⟨h1, h2⟩ := h
  rcases h2 with ⟨e, _⟩ | ⟨g', cap', cur, e, hB, hg, hc, hm, hs, ht⟩
  · cases e
  · simp only [Value.slice.injEq, Option.some.injEq, Addr.mk.injEq, and_true, true_and] at e
    obtain ⟨e1, e2⟩ := e
    subst e1; subst e2
    have hlt : g < w.heap.size := (Array.getElem?_eq_some_iff.1 hg).1
    have hgrow : ∀ k, k < w.heap.size → (sortWorldK R.enc R.k w g 0 n d' os).heap[k]? = (w.heap.modify g (onCells (putCells id 0 (flatK R.enc R.k d'))))[k]? := by
      intro k hk
      show ((w.heap.modify g (onCells (putCells id 0 (flatK R.enc R.k d')))) ++ os)[k]? = _
      rw [Array.getElem?_append_left (by simpa using hk)]
    have hcell : (sortWorldK R.enc R.k w g 0 n d' os).heap[g]? = some (.cells (putCells id 0 (flatK R.enc R.k d') cur) R.tE (0, 0)) := by
      rw [hgrow g hlt, Array.getElem?_modify, if_pos rfl, hg]
      rfl
    have hpl : d'.toList.length = xs.length := by simpa using hl
    refine ⟨⟨R.cells_len _, .inr ⟨g, cap, putCells id 0 (flatK R.enc R.k d') cur, by rw [hpl], hB, hcell, by rw [hpl]; exact hc, hm, by simp [putCells, hs], ?_⟩⟩, rfl, rfl, rfl, ?_, ?_⟩
    · rw [← flat_cellsK, hpl]
      have hz : xs.length * R.k = (flatK R.enc R.k d').size := by simp [hl]
      rw [hz]
      refine put_takeK _ _ ?_
      rw [← hz, hs]
      exact Nat.mul_le_mul_right _ hc
    · show w.heap.size ≤ ((w.heap.modify g (onCells (putCells id 0 (flatK R.enc R.k d')))) ++ os).size
      simp
    · intro k hk
      rw [hgrow k (by omega), Array.getElem?_modify, if_neg (by omega)]
theorem put_grownK (w : World) (g n : Nat) (d' : Array α) (os : Array Obj) : w.grownBy (sortWorldK R.enc R.k w g 0 n d' os) (some g) := by
  refine ⟨rfl, rfl, rfl, ?_, fun k hk hne => ?_⟩
  · show w.heap.size ≤ ((w.heap.modify g (onCells (putCells id 0 (flatK R.enc R.k d')))) ++ os).size
    simp
  · show ((w.heap.modify g (onCells (putCells id 0 (flatK R.enc R.k d')))) ++ os)[k]? = _
    rw [Array.getElem?_append_left (by simpa using hk), Array.getElem?_modify, if_neg (fun e => hne (by rw [e]))]
/-- the sort of a row of the call's own -/
theorem sort_ownKL {ρ : Go.Shelf.Ren} (L : Go.Proofs.SlLaysF0.n6 Tryz.prog ρ) (aE : ∀ w, (isAgg (ρ.t 24)).run Tryz.prog w = .ok true w) (zE : ∀ w, (Go.sizeOf (ρ.t 24)).run Tryz.prog w = .ok R.k w) (cf : α → α → Int) (hO : SWO (ltOf cf)) (fc : Nat)
    (eg : ∀ args w, (callFunc fc args).run Tryz.prog w = .ok (.enter fc args) w) (hC : ∀ blk off size w, CmpLays Tryz.prog fc #[] R.enc R.k cf blk off size w)
    (B : Nat) (v : Value) (xs : List α) (w : World) (hown : R.Own B w v xs) (hB : B ≤ w.heap.size) (hlen : xs.length ≤ 1000000000000000) :
    Calls Tryz.prog (ρ.f 6) #[v, .func (.func fc) #[] #[]] w (fun e w' => e = .returned (.tuple #[]) ∧ ∃ ys : List α, ys.Perm xs ∧ ys.Pairwise (fun x y => ltOf cf y x = false) ∧ R.Own B w' v ys ∧ Below B w w' ∧ w.grownBy w' v.ownBlock) := by
  have hk := hown
  rcases hk.2 with ⟨e, hn⟩ | ⟨g, cap, cur, e, _, hg, _⟩
  · obtain rfl : xs = [] := List.length_eq_zero_iff.1 hn
    subst e
    refine (AnyF.slices_SortFunc_none L none 0 _ w).mono ?_
    rintro e w' ⟨rfl, rfl⟩
    exact ⟨rfl, [], List.Perm.refl _, List.Pairwise.nil, hown, Below.refl _ _, ⟨rfl, rfl, rfl, Nat.le_refl _, fun _ _ _ => rfl⟩⟩
  · subst e
    obtain ⟨d, rfl⟩ : ∃ d : Array α, xs = d.toList := ⟨xs.toArray, rfl⟩
    have hsl : d.size < 4611686018427387904 := by
      have e : d.toList.length = d.size := by simp
      omega
    have hcon := AnyQ.slices_SortFunc L R.k aE zE R.enc R.len R.one cf hO fc #[] g 0 cap d w eg (hC g 0 d.size w) (holds_ownK hown) (Array.getElem?_eq_some_iff.1 hg).1 hsl
    have hsz : d.toList.length = d.size := by simp
    rw [hsz]
    refine Calls.mono hcon ?_
    rintro e w' ⟨rfl, d', n, os, hp, hs, rfl⟩
    have hl : d'.size = d.toList.length := by rw [hp.1, hsz]
    have hq := own_putK hown hl n os
    rw [hsz] at hq
    refine ⟨rfl, d'.toList, ?_, ?_, hq.1, hq.2, put_grownK w g n d' os⟩
    · have h3 := hp.2.2
      rw [Array.extract_size, show d.size = d'.size by rw [hl, hsz], Array.extract_size] at h3
      simpa using h3
    · rw [List.pairwise_iff_getElem]
      intro i j hi hj hij
      have hi' : i < d'.size := by simpa using hi
      have hj' : j < d'.size := by simpa using hj
      have h4 := hs i j (Nat.zero_le _) hij (by omega)
      rw [getElem!_pos d' i hi', getElem!_pos d' j hj'] at h4
      simpa using h4
theorem sort_ownK {ρ : Go.Shelf.Ren} (L : Go.Proofs.SlLaysF0.n6 Tryz.prog ρ) (aE : ∀ w, (isAgg (ρ.t 24)).run Tryz.prog w = .ok true w) (zE : ∀ w, (Go.sizeOf (ρ.t 24)).run Tryz.prog w = .ok R.k w) (cf : α → α → Int) (hO : SWO (ltOf cf)) (fc : Nat)
    (eg : ∀ args w, (callFunc fc args).run Tryz.prog w = .ok (.enter fc args) w) (hC : ∀ blk off size w, CmpLays Tryz.prog fc #[] R.enc R.k cf blk off size w)
    (B : Nat) (v : Value) (xs : List α) (w : World) (hown : R.Own B w v xs) (hB : B ≤ w.heap.size) (hlen : xs.length ≤ 900000) :
    Calls Tryz.prog (ρ.f 6) #[v, .func (.func fc) #[] #[]] w (fun e w' => e = .returned (.tuple #[]) ∧ ∃ ys : List α, ys.Perm xs ∧ ys.Pairwise (fun x y => ltOf cf y x = false) ∧ R.Own B w' v ys ∧ Below B w w') :=
  (sort_ownKL L aE zE cf hO fc eg hC B v xs w hown hB (by omega)).mono fun e w' ⟨h1, ys, h2, h3, h4, h5, _⟩ => ⟨h1, ys, h2, h3, h4, h5⟩
end
end Go.Proofs.YthhceggcdaljdaaGreat
/- the program's compare, and the library's sort of items -/
namespace Go.Proofs.YthhceggcdaljdaaGreat
open Go.RowKit Go.Sort Go.Shelf
set_option linter.unusedVariables false
set_option linter.unusedSimpArgs false

/- the library's sort, laid at rows of items -/
def sortLI_ren : Go.Shelf.Ren := ⟨fun | 6 => 141 | 15 => 169 | 14 => 186 | 28 => 213 | 29 => 214 | 20 => 227 | 21 => 228 | 22 => 229 | 23 => 230 | 24 => 231 | 25 => 232 | 26 => 233 | 27 => 234 | 46 => 252 | 47 => 241 | 48 => 242 | 49 => 253 | 50 => 254 | 57 => 269 | n => n, fun | 22 => 37 | 24 => 57 | 25 => 196 | 3 => 3 | 39 => 214 | 0 => 0 | 53 => 244 | 55 => 246 | 4 => 4 | 46 => 238 | 45 => 237 | 50 => 184 | 5 => 5 | 9 => 9 | 66 => 264 | 70 => 268 | 76 => 285 | 77 => 123 | n => n, fun | n => n⟩
theorem sortLI : Go.Proofs.SlLaysF0.n6 Tryz.prog sortLI_ren where
  mixed := by kernel_rfl
  f6 := ⟨ "slices.SortFunc[[]backwash/api.Item,backwash/api.Item]", by decide, Tryz.func141.trans (congrArg some (by kernel_rfl))⟩
  f14 := ⟨ "slices.pdqsortCmpFunc[backwash/api.Item]", by decide, Tryz.func186.trans (congrArg some (by kernel_rfl))⟩
  f15 := Tryz.func169.trans (congrArg some (by kernel_rfl))
  f20 := ⟨ "slices.insertionSortCmpFunc[backwash/api.Item]", by decide, Tryz.func227.trans (congrArg some (by kernel_rfl))⟩
  f21 := ⟨ "slices.heapSortCmpFunc[backwash/api.Item]", by decide, Tryz.func228.trans (congrArg some (by kernel_rfl))⟩
  f22 := ⟨ "slices.breakPatternsCmpFunc[backwash/api.Item]", by decide, Tryz.func229.trans (congrArg some (by kernel_rfl))⟩
  f23 := ⟨ "slices.choosePivotCmpFunc[backwash/api.Item]", by decide, Tryz.func230.trans (congrArg some (by kernel_rfl))⟩
  f24 := ⟨ "slices.reverseRangeCmpFunc[backwash/api.Item]", by decide, Tryz.func231.trans (congrArg some (by kernel_rfl))⟩
  f25 := ⟨ "slices.partialInsertionSortCmpFunc[backwash/api.Item]", by decide, Tryz.func232.trans (congrArg some (by kernel_rfl))⟩
  f26 := ⟨ "slices.partitionEqualCmpFunc[backwash/api.Item]", by decide, Tryz.func233.trans (congrArg some (by kernel_rfl))⟩
  f27 := ⟨ "slices.partitionCmpFunc[backwash/api.Item]", by decide, Tryz.func234.trans (congrArg some (by kernel_rfl))⟩
  f28 := Tryz.func213.trans (congrArg some (by kernel_rfl))
  f29 := Tryz.func214.trans (congrArg some (by kernel_rfl))
  f46 := ⟨ "slices.siftDownCmpFunc[backwash/api.Item]", by decide, Tryz.func252.trans (congrArg some (by kernel_rfl))⟩
  f47 := Tryz.func241.trans (congrArg some (by kernel_rfl))
  f48 := Tryz.func242.trans (congrArg some (by kernel_rfl))
  f49 := ⟨ "slices.medianAdjacentCmpFunc[backwash/api.Item]", by decide, Tryz.func253.trans (congrArg some (by kernel_rfl))⟩
  f50 := ⟨ "slices.medianCmpFunc[backwash/api.Item]", by decide, Tryz.func254.trans (congrArg some (by kernel_rfl))⟩
  f57 := ⟨ "slices.order2CmpFunc[backwash/api.Item]", by decide, Tryz.func269.trans (congrArg some (by kernel_rfl))⟩
  t0 := Tryz.underlying0
  a0 := Tryz.isAgg0
  z0 := Tryz.sizeOf0
  v0 := Tryz.zeroValue0
  t3 := Tryz.underlying3
  a3 := Tryz.isAgg3
  z3 := Tryz.sizeOf3
  v3 := Tryz.zeroValue3
  t4 := Tryz.underlying4
  a4 := Tryz.isAgg4
  z4 := Tryz.sizeOf4
  v4 := Tryz.zeroValue4
  t5 := Tryz.underlying5
  a5 := Tryz.isAgg5
  z5 := Tryz.sizeOf5
  v5 := Tryz.zeroValue5
  t9 := Tryz.underlying9
  a9 := Tryz.isAgg9
  z9 := Tryz.sizeOf9
  v9 := Tryz.zeroValue9
  t22 := Tryz.underlying37
  a22 := Tryz.isAgg37
  z22 := Tryz.sizeOf37
  v22 := Tryz.zeroValue37
  t25 := Tryz.underlying196
  a25 := Tryz.isAgg196
  z25 := Tryz.sizeOf196
  v25 := Tryz.zeroValue196
  t39 := Tryz.underlying214
  a39 := Tryz.isAgg214
  z39 := Tryz.sizeOf214
  v39 := Tryz.zeroValue214
  t45 := Tryz.underlying237
  a45 := Tryz.isAgg237
  z45 := Tryz.sizeOf237
  v45 := Tryz.zeroValue237
  t46 := Tryz.underlying238
  a46 := Tryz.isAgg238
  z46 := Tryz.sizeOf238
  v46 := Tryz.zeroValue238
  t50 := Tryz.underlying184
  a50 := Tryz.isAgg184
  z50 := Tryz.sizeOf184
  v50 := Tryz.zeroValue184
  t53 := Tryz.underlying244
  a53 := Tryz.isAgg244
  z53 := Tryz.sizeOf244
  v53 := Tryz.zeroValue244
  t55 := Tryz.underlying246
  a55 := Tryz.isAgg246
  z55 := Tryz.sizeOf246
  v55 := Tryz.zeroValue246
  t66 := Tryz.underlying264
  a66 := Tryz.isAgg264
  z66 := Tryz.sizeOf264
  v66 := Tryz.zeroValue264
  t70 := Tryz.underlying268
  a70 := Tryz.isAgg268
  z70 := Tryz.sizeOf268
  v70 := Tryz.zeroValue268
  t76 := Tryz.underlying285
  a76 := Tryz.isAgg285
  z76 := Tryz.sizeOf285
  v76 := Tryz.zeroValue285
  t77 := Tryz.underlying123
  a77 := Tryz.isAgg123
  z77 := Tryz.sizeOf123
  v77 := Tryz.zeroValue123


theorem blessD_any (a b : RV) (w : World) : Calls Tryz.prog 134 #[a.val, b.val] w (RetD (.bool (a.lt b)) w) := by
  have H : Hid (∀ W, Calls Tryz.prog 135 #[.agg #[.int .i64 a.k, .int .i64 a.v], .agg #[.int .i64 b.k, .int .i64 b.v]] W (RetD (.int .i64 (cmpR a b)) W)) := fun W => bcompare_any a b W
  have hc := (cmpR_lt a b).symm
  generalize cmpR a b = r at *
  generalize a.lt b = q at *
  have HC := Lib.hid hc
  clear hc
  show Calls _ _ #[.agg #[.int .i64 a.k, .int .i64 a.v], .agg #[.int .i64 b.k, .int .i64 b.v]] _ _
  go_enter Tryz.func134, Tryz.ntmps134
  go_wp2_with fail
  refine (H.out _).mono ?_
  rintro e w1 ⟨rfl, hb1, hd1⟩
  have hB : Below w.heap.size w w1 := bcall (by repeat' first | exact Below.refl _ _ | (apply Below.alloc) | (simp; done)) hb1 (by simp; omega)
  have HB := Lib.hid hB
  have HD : Hid (w.drawn ≤ w1.drawn) := hd1
  clear hb1 hd1
  go_wp2
  go_returns
  exact ⟨ret_bool HC.out.symm, HB.out, HD.out⟩
def cmpI (a b : IV) : Int := if a.t.lt b.t = true then -1 else if b.t.lt a.t = true then 1 else 0
theorem cmpI_lt (a b : IV) : ltOf cmpI a b = a.t.lt b.t := by
  show decide (cmpI a b < 0) = _
  unfold cmpI
  cases h : a.t.lt b.t
  · cases h2 : b.t.lt a.t <;> simp
  · simp
set_option maxRecDepth 100000 in
set_option maxHeartbeats 8000000 in
theorem pcompare_any (a b : IV) (w : World) : Calls Tryz.prog 142 #[a.val, b.val] w (RetD (.int .i64 (cmpI a b)) w) := by
  have HL1 := Lib.hid (fun W => blessD_any a.t b.t W)
  have HL2 := Lib.hid (fun W => blessD_any b.t a.t W)
  unfold cmpI
  generalize a.t.lt b.t = p at *
  generalize b.t.lt a.t = q at *
  obtain ⟨⟨k1, v1⟩, n1⟩ := a
  obtain ⟨⟨k2, v2⟩, n2⟩ := b
  show Calls _ _ #[.agg #[.int .i64 k1, .int .i64 v1, .int .i64 n1], .agg #[.int .i64 k2, .int .i64 v2, .int .i64 n2]] _ _
  have HX0 : Hid (rowOf ((w.alloc (.cells #[.int .i64 k1, .int .i64 v1, .int .i64 n1] 57)).alloc (.cells #[.int .i64 k2, .int .i64 v2, .int .i64 n2] 57)) w.heap.size = some #[.int .i64 k1, .int .i64 v1, .int .i64 n1]) := row_old (row_new rfl)
  have HX1 : Hid (rowOf ((w.alloc (.cells #[.int .i64 k1, .int .i64 v1, .int .i64 n1] 57)).alloc (.cells #[.int .i64 k2, .int .i64 v2, .int .i64 n2] 57)) (w.heap.size + 1) = some #[.int .i64 k2, .int .i64 v2, .int .i64 n2]) := row_new (by rw [World.size_alloc])
  have HB0 : Hid (Below w.heap.size w ((w.alloc (.cells #[.int .i64 k1, .int .i64 v1, .int .i64 n1] 57)).alloc (.cells #[.int .i64 k2, .int .i64 v2, .int .i64 n2] 57))) := ((Below.refl _ _).alloc (Nat.le_refl _) _).alloc (by rw [World.size_alloc]; omega) _
  cases p
  · cases q
    all_goals
      simp only [Bool.false_eq_true, if_false, if_true]
      go_enter Tryz.func142, Tryz.ntmps142
      go_wp2_with fail
      refine (HL1.out _).mono ?_
      rintro e w1 ⟨rfl, hb1, hd1⟩
      have HB1 := Lib.hid (HB0.out.trans (hb1.mono HB0.out.size))
      have HD1 : Hid (w.drawn ≤ w1.drawn) := hd1
      have hx0 := rowOf_below HX0.out hb1 (rowOf_lt HX0.out)
      have hx1 := rowOf_below HX1.out hb1 (rowOf_lt HX1.out)
      have c0 : w1.cell? ⟨w.heap.size, 0, none⟩ = some (.int .i64 k1) := rowOf_cell hx0 0
      have c1 : w1.cell? ⟨w.heap.size, 1, none⟩ = some (.int .i64 v1) := rowOf_cell hx0 1
      have d0 : w1.cell? ⟨w.heap.size + 1, 0, none⟩ = some (.int .i64 k2) := rowOf_cell hx1 0
      have d1 : w1.cell? ⟨w.heap.size + 1, 1, none⟩ = some (.int .i64 v2) := rowOf_cell hx1 1
      clear hb1 hd1 HX0 HX1 HL1 HB0 hx0 hx1
      go_wp2_with fail
      refine (HL2.out _).mono ?_
      rintro e w2 ⟨rfl, hb1, hd1⟩
      have HB2 := Lib.hid (HB1.out.trans (hb1.mono HB1.out.size))
      have HD2 : Hid (w.drawn ≤ w2.drawn) := Nat.le_trans HD1.out hd1
      clear hb1 hd1 c0 c1 d0 d1 HL2 HB1 HD1
      go_wp2
      go_returns
      exact ⟨rfl, HB2.out, HD2.out⟩
  · simp only [if_true]
    go_enter Tryz.func142, Tryz.ntmps142
    go_wp2_with fail
    refine (HL1.out _).mono ?_
    rintro e w1 ⟨rfl, hb1, hd1⟩
    have HB1 := Lib.hid (HB0.out.trans (hb1.mono HB0.out.size))
    have HD1 : Hid (w.drawn ≤ w1.drawn) := hd1
    clear hb1 hd1 HX0 HX1 HL1 HL2 HB0
    go_wp2
    go_returns
    exact ⟨rfl, HB1.out, HD1.out⟩
theorem swoI : SWO (ltOf cmpI) where
  irrefl x := by rw [cmpI_lt]; exact RV.lt_irrefl x.t
  trans x y z h1 h2 := by rw [cmpI_lt] at *; exact RV.lt_trans h1 h2
  ntrans x y z h1 h2 := by rw [cmpI_lt] at *; rw [RV.lt_no] at *; omega
theorem cmpLaysI (blk off size : Nat) (w : World) : CmpLays Tryz.prog 142 #[] IV.enc 3 cmpI blk off size w := fun m os dk hs x y =>
  (pcompare_any x y _).mono fun e w' h => ⟨h.1, grow_of_below h.2.1 h.2.2⟩
theorem isort_own (B : Nat) (v : Value) (xs : List IV) (w : World) (hown : RI.Own B w v xs) (hB : B ≤ w.heap.size) (hlen : xs.length ≤ 900000) :
    Calls Tryz.prog 141 #[v, .func (.func 142) #[] #[]] w (fun e w' => e = .returned (.tuple #[]) ∧ ∃ ys : List IV, ys.Perm xs ∧ ys.Pairwise (fun x y => y.t.lt x.t = false) ∧ RI.Own B w' v ys ∧ Below B w w') :=
  (sort_ownK (R := RI) sortLI Tryz.isAgg57 Tryz.sizeOf57 cmpI swoI 142 (enters_of Tryz.func142 (by kernel_rfl) rfl) cmpLaysI B v xs w hown hB hlen).mono
    fun e w' ⟨h1, ys, h2, h3, h4⟩ => ⟨h1, ys, h2, h3.imp (fun {x y} h => by rw [cmpI_lt] at h; exact h), h4⟩
end Go.Proofs.YthhceggcdaljdaaGreat
/- append to a part of a row of the call's own: the element is written in its place -/
namespace Go.Proofs.YthhceggcdaljdaaGreat
open Go.RowKit
set_option linter.unusedVariables false
set_option linter.unusedSimpArgs false
set_option linter.unusedSectionVars false
namespace RowKind
section
variable {α : Type} [Inhabited α] {R : RowKind α}
theorem put_eq {cur : Array Value} {a : Nat} {vs : List Value} (h : a + vs.length ≤ cur.size) : (cur.toList.take a ++ vs ++ cur.toList.drop (a + vs.length)).toArray = putFrom cur a vs := by
  apply Array.ext'
  refine List.ext_getElem? fun t => ?_
  rw [Array.getElem?_toList (xs := putFrom cur a vs), get_putFrom _ _ _ _ h]
  show (cur.toList.take a ++ vs ++ cur.toList.drop (a + vs.length))[t]? = _
  have h1 : (cur.toList.take a).length = a := by rw [List.length_take, Array.length_toList]; omega
  rw [List.append_assoc]
  by_cases ht : t < a
  · rw [List.getElem?_append_left (by omega), List.getElem?_take, if_pos ht, if_neg (by omega), Array.getElem?_toList]
  · rw [List.getElem?_append_right (by omega), h1]
    by_cases ht2 : t < a + vs.length
    · rw [List.getElem?_append_left (by omega), if_pos (by omega)]
    · rw [List.getElem?_append_right (by omega), if_neg (by omega), List.getElem?_drop, Array.getElem?_toList]
      congr 1
      omega
theorem run_appendIn {w : World} {B g n m cap : Nat} {vx : Value} {xs : List α} {y : α} (h : R.Own B w (.slice (some ⟨g, 0, none⟩) n cap) xs) (hm : m < n) (hz : R.App w vx [y]) (ty : TypeId) :
    ∃ w', (Builtin.append_ #[R.tS, R.tS] ty #[.slice (some ⟨g, 0, none⟩) m cap, vx]).run Tryz.prog w = .ok (.slice (some ⟨g, 0, none⟩) (m + 1) cap) w' ∧ R.Own B w' (.slice (some ⟨g, 0, none⟩) n cap) (xs.set m y) ∧ w.grownBy w' (some g) := by
  obtain ⟨i0, hi, hz0, hz1, hz2⟩ := info_parts R.info
  obtain ⟨ad, c, rfl, hc⟩ := hz
  obtain ⟨cur, hg, hn, hB, hle, hmx, hs, ht⟩ := h.row
  have hk := R.k0
  have hcl : (R.cells [y]) = R.enc y := by simp [cells]
  have hroom : (m + 1) * R.k ≤ cap * R.k := Nat.mul_le_mul_right _ (by omega)
  rw [Nat.add_mul, Nat.one_mul] at hroom
  have hfit : m * R.k + (R.enc y).length ≤ cur.size := by rw [R.len, hs]; exact hroom
  have hr := run_append_room (P := Tryz.prog) w R.tS ty R.tE i0 R.under hi g m cap cur hg ad 1 c (R.cells [y]) (by rw [hz1]; exact R.cells_len [y]) hc one_cells (by omega) (by rw [hz1, hcl]; exact hfit)
  rw [hz1, hcl, put_eq hfit] at hr
  exact ⟨_, hr, h.setAt (by omega) y hg, grown_setRow _ _ _⟩
theorem Own.appendIn {ops : Array Oper} {rest : List Oper} {o : Oper} {a : Act} {Q : Exit → Act → World → Prop} {w : World} (hgd : o.guard = none) (s x : Operand)
    (ho : o.op = .call { callee := .builtin .append, args := #[s, x], argTypes := #[R.tS, R.tS] }) {B g n m cap : Nat} {vx : Value} {xs : List α} {y : α} (h : R.Own B w (.slice (some ⟨g, 0, none⟩) n cap) xs) (hm : m < n) (hs : a.eval s = .slice (some ⟨g, 0, none⟩) m cap)
    (hx : a.eval x = vx) (hz : R.App w vx [y])
    (hk : ∀ w', R.Own B w' (.slice (some ⟨g, 0, none⟩) n cap) (xs.set m y) → w.grownBy w' (some g) → wpList Tryz.prog ops Q rest (a.put o.dst (.slice (some ⟨g, 0, none⟩) (m + 1) cap)) w') : wpList Tryz.prog ops Q (o :: rest) a w := by
  obtain ⟨w', hr, h1, h2⟩ := run_appendIn h hm hz o.type
  refine wpList_plain hgd fun _ hK => wp_of_runB ho (by rw [hs, hx]; exact hr) (hK _ _ (hk w' h1 h2))
end
end RowKind
end Go.Proofs.YthhceggcdaljdaaGreat
