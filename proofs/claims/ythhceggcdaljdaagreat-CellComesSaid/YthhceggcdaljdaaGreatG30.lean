import Derived.Test.YthhceggcdaljdaaGreatRows
import Derived.WalkKit
import Derived.ProofKit
import Derived.OpenShut
import Derived.Carry
import Derived.ChangeSame
import Derived.Test.YthhceggcdaljdaaGreatG02
import Derived.Test.YthhceggcdaljdaaGreatG08
import Derived.Deep.Slices
import Derived.Test.YthhceggcdaljdaaGreatG05
namespace Go.Proofs.YthhceggcdaljdaaGreat
open Go.ChangeShapes Go.WideShapes Go.ChangeAt Go.RowKit
set_option linter.unusedVariables false

theorem lift_own : ownKnob Tryz.prog.godebug = none := by kernel_rfl
theorem lift_laid : laidOutB Tryz.prog = true := by kernel_rfl

section
variable {H : Type} {enc : TypeId × Value → H} {P : Program}

theorem lift_trod (hl : laidOutB P = true) {W W' : World} (hb : Below W.heap.size W W') (sp : Nat → Bool) : ∀ {ts : List TypeId} {vs : List Value} {ds : List (DataW H)} {ps : List MemPlace},
    (∀ t ∈ ts, P.readableRec t = true ∧ t < P.types.size) → DataW.TrodAll enc P W 0 (fun _ => true) true ts vs ds ps → (∀ p ∈ ps, p.block < W.heap.size) → (∀ p ∈ ps, sp p.block = true) → DataW.TrodAll enc P W' 0 sp true ts vs ds ps
  | [], [], [], _, _, h, _, _ => h
  | t :: ts, v :: vs, d :: ds, _, ht, ⟨p, q, h1, h2, e⟩, hlt, hsp => by
    subst e
    exact ⟨p, q, WideElems.Trod_stays hl (ht t (by simp)).1 (ht t (by simp)).2 h1 (fun x hx => hb.same (hlt x (by simp [hx]))) (fun x hx => hsp x (by simp [hx])),
      lift_trod hl hb sp (fun t h => ht t (by simp [h])) h2 (fun x hx => hlt x (by simp [hx])) (fun x hx => hsp x (by simp [hx])), rfl⟩
  | [], [], _ :: _, _, _, h, _, _ => h.elim
  | [], _ :: _, _, _, _, h, _, _ => h.elim
  | _ :: _, [], _, _, _, h, _, _ => h.elim
  | _ :: _, _ :: _, [], _, _, h, _, _ => h.elim

theorem lift_len {W : World} {b : Nat} {sp : Nat → Bool} {hd : Bool} : ∀ {ts : List TypeId} {vs : List Value} {ds : List (DataW H)} {ps : List MemPlace}, DataW.TrodAll enc P W b sp hd ts vs ds ps → vs.length = ts.length ∧ ds.length = ts.length
  | [], [], [], _, _ => ⟨rfl, rfl⟩
  | _ :: _, _ :: _, _ :: _, _, ⟨_, _, _, h2, _⟩ => by
    have := lift_len h2
    exact ⟨by simp [this.1], by simp [this.2]⟩
  | [], [], _ :: _, _, h => h.elim
  | [], _ :: _, _, _, h => h.elim
  | _ :: _, [], _, _, h => h.elim
  | _ :: _, _ :: _, [], _, h => h.elim

theorem lift_post {f : Func} {s : ChangeSpec} {apart fresh handsOn again : Bool} {W W' : World} {args : Array Value} {v : Value} {ds gs : List (DataW H)} {before pa pv : List MemPlace}
    (hW : DataW.Whole enc P f.params.toList s.vars apart W args.toList ds gs before)
    (hres : ∀ (b : Nat) (sp : Nat → Bool) (hd : Bool), DataW.TrodAll enc P W' b sp hd f.resultTypes.toList (v.resultList f.resultTypes.size) (s.fn H (ds ++ gs)).results [])
    (hargs : ∀ sp : Nat → Bool, (∀ p ∈ before, sp p.block = true) → DataW.TrodAll enc P W' 0 sp true f.params.toList args.toList (s.fn H (ds ++ gs)).args pa)
    (hvars : ∀ sp : Nat → Bool, (∀ p ∈ before, sp p.block = true) → DataW.TrodVars enc P W' sp s.vars (s.fn H (ds ++ gs)).vars pv)
    (hps : before = pa ++ pv) (hb : Below W.heap.size W W')
    (hok : ∀ (j : Nat) (t : TypeId) (r : Value), f.resultTypes[j]? = some t → (v.resultList f.resultTypes.size)[j]? = some r → Value.okWide P W' .any 0 t r) :
    s.post enc P f apart fresh handsOn again W args v W' := by
  have hlt : ∀ p ∈ before, p.block < W.heap.size := fun p hp => hW.lt p hp
  have hold : ∀ p ∈ before, (fun b => decide (b < W.heap.size)) p.block = true := fun p hp => by simpa using hlt p hp
  refine ⟨ds, gs, before, [], pa, pv, hW, hres _ _ _, hargs _ hold, hvars _ hold, World.keptBut_mono (fun p hp => ⟨hp, ?_⟩) (hb.frame (· ∈ before)), fun _ => ?_⟩
  · rw [hps, List.mem_append] at hp
    exact Or.inr hp
  · obtain ⟨_, _, _, _, _, hz, hn⟩ := hW
    refine ⟨hok, _, _, ([] ++ pa) ++ pv, ⟨[] ++ pa, pv, trodAll_append (hargs _ (fun _ _ => rfl)) (hres _ _ _), hvars _ (fun _ _ => rfl), rfl, ?_, ?_⟩, ?_⟩
    · intro b off hp
      have hin : MemPlace.cell b off ∈ before := by rw [hps]; simpa using hp
      rw [hb.frozen (hlt _ hin)]
      exact hz b off hin
    · intro ha
      have := hn ha
      rw [hps] at this
      simpa using this
    · intro p hp _
      rw [hps]
      simpa using hp

/-- a law: it returns true, and what was there is as it was -/
theorem lift_law {f : Func} {s : ChangeSpec} {apart fresh handsOn again : Bool} {tb : TypeId} {W : World} {args : Array Value} {ds gs : List (DataW H)} {before : List MemPlace}
    (hl : laidOutB P = true) (htb : P.underlying tb = some .bool) (hrt : f.resultTypes = #[tb]) (hpt : ∀ t ∈ f.params.toList, P.readableRec t = true ∧ t < P.types.size) (hv : s.vars = [])
    (hfn : s.fn H ds = { results := [.lit (.bool true)], args := ds })
    (hW : DataW.Whole enc P f.params.toList s.vars apart W args.toList ds gs before) {fid : FuncId}
    (h : Calls P fid args W fun e w' => e = .returned (.bool true) ∧ Below W.heap.size W w') :
    Calls P fid args W fun e W' => ∃ v, e = .returned v ∧ s.post enc P f apart fresh handsOn again W args v W' := by
  have hW' := hW
  have hlt : ∀ p ∈ before, p.block < W.heap.size := fun p hp => hW.lt p hp
  obtain ⟨p, q, hA, hV, hps, _, _⟩ := hW
  rw [hv] at hV
  obtain ⟨rfl, rfl⟩ := trodVars_none hV
  refine h.mono fun e W' ⟨he, hb⟩ => ⟨_, he, ?_⟩
  have hfn' : s.fn H (ds ++ []) = { results := [.lit (.bool true)], args := ds } := by rw [List.append_nil]; exact hfn
  refine lift_post (pa := p) (pv := []) hW' ?_ ?_ ?_ hps hb ?_
  · intro b sp hd
    rw [hfn', hrt]
    exact trodAll_mk1 (shut_bool htb _)
  · intro sp hsp
    rw [hfn']
    exact lift_trod hl hb sp hpt hA (fun x hx => hlt x (by rw [hps]; simp [hx])) (fun x hx => hsp x (by rw [hps]; simp [hx]))
  · intro sp hsp
    rw [hfn', hv]
    rfl
  · rw [hrt]
    exact ok_one (f := { f with resultTypes := #[tb] }) rfl rfl (okWide_bool_mk htb _)

theorem cell_int {W : World} {r : Reach} {b : Nat} {t : TypeId} {k : IntKind} {v : Value} (ht : P.underlying t = some (.int k)) (h : Cell.okWide P W r b t v) : ∃ n, v = .int k n ∧ k.has n := by
  unfold Cell.okWide Cell.ok at h
  rw [ht] at h
  cases v <;> simp at h
  obtain ⟨rfl, h2⟩ := h
  exact ⟨_, rfl, h2⟩
end
end Go.Proofs.YthhceggcdaljdaaGreat
/- an argument that is a slice of anything whose cells are told once; records and items as arguments -/
namespace Go.Proofs.YthhceggcdaljdaaGreat
open Go.ChangeShapes Go.WideShapes Go.ChangeAt Go.RowKit Go.Deep
set_option linter.unusedVariables false
set_option linter.unusedSimpArgs false

section
variable {H : Type} {enc : TypeId × Value → H} {w : World} {base : Nat} {sp : Nat → Bool} {held : Bool}
set_option maxRecDepth 100000 in
theorem open_rows {α : Type} [Inhabited α] (R : RowKind α) (P : α → Prop) (hk : Tryz.prog.cellsOf R.tE = R.k)
    (hcell : ∀ (n : Nat) (cs : List Value) (x : DataW H × List MemPlace), DataW.trod enc Tryz.prog w base sp held n R.tE cs = some x → ∃ a : α, cs = R.enc a ∧ P a)
    {r : Reach} {b0 : Nat} {v : Value} {d : DataW H} {ps : List MemPlace} (hval : Value.okWide Tryz.prog w r b0 R.tS v) (hd : DataW.Trod enc Tryz.prog w base sp held R.tS v d ps) : ∃ xs : List α, R.Is w v xs ∧ capOk v ∧ ∀ x ∈ xs, P x := by
  obtain ⟨fuel, h⟩ := hd
  obtain ⟨pa, ln, cp, rfl⟩ := okWide_slice R.under hval
  rcases open_slice R.under h with ⟨e, _⟩ | ⟨a, len, cap, m, n, D, Pl, e, hb, hl, hm, hmm, _, hx⟩
  · simp [Value.cells] at e
    obtain ⟨rfl, rfl, rfl⟩ := e
    exact ⟨[], .inl ⟨rfl, none, 0, rfl, fun _ => rfl⟩, fun p n c e => by cases e; omega, fun x hx => by cases hx⟩
  · simp [Value.cells] at e
    obtain ⟨rfl, rfl, rfl⟩ := e
    have hlm : ln ≤ m := by rw [hmm]; split <;> omega
    rw [hk] at hx
    have each : ∀ i, i < m → ∃ t : α, P t ∧ ∀ k u, (R.enc t)[k]? = some u → w.cell? ((a.add (i * R.k)).add k) = some u := by
      intro i hi
      obtain ⟨cs', h1, h2⟩ := hx i hi
      obtain ⟨_, hlen, hcl⟩ := World.cells?_some h1
      obtain ⟨t, rfl, hp⟩ := hcell _ _ _ h2
      refine ⟨t, hp, fun k u hu => ?_⟩
      have hk5 : k < R.k := by have := (List.getElem?_eq_some_iff.1 hu).1; rw [R.len] at this; exact this
      rw [hcl k hk5]
      exact hu
    obtain ⟨T, hT⟩ := choose_lt each
    by_cases h0 : ln = 0
    · subst h0
      exact ⟨[], .inl ⟨rfl, some a, cp, rfl, fun h => by cases h⟩, fun p n c e => by cases e; omega, fun x hx => by cases hx⟩
    · have hk0 := R.k0
      obtain ⟨u0, hu0⟩ : ∃ u, (R.enc (T 0))[0]? = some u := ⟨_, List.getElem?_eq_getElem (by rw [R.len]; exact hk0)⟩
      have c00 := (hT 0 (by omega)).2 0 _ hu0
      have hspot : a.spot = none := by
        rw [add_add] at c00
        unfold World.cell? at c00
        split at c00
        · split at c00
          · cases c00
          · rename_i hn
            simp [Addr.add] at hn
            exact hn
        · cases c00
      obtain ⟨b, off, spot⟩ := a
      simp only at hspot
      subst hspot
      have hbl : b < w.heap.size := World.block_lt_of_cell? _ _ (by rw [add_add, Nat.add_zero, Addr.add_lit] at c00; exact c00)
      refine ⟨(List.range ln).map T, .inr ⟨by simp [h0], b, off, cp, by simp, hbl, ?_⟩, fun p n c e => by cases e; omega, fun x hx => ?_⟩
      · intro j hj i u hu
        have hj' : j < ln := by simpa using hj
        have hg : ((List.range ln).map T)[j]! = T j := by simp [hj']
        rw [hg] at hu
        have := (hT j (by omega)).2 i u hu
        rw [add_add, Addr.add_lit, ← Nat.add_assoc] at this
        exact this
      · obtain ⟨j, hj, rfl⟩ := List.mem_map.1 hx
        exact (hT j (by have := List.mem_range.1 hj; omega)).1
end
end Go.Proofs.YthhceggcdaljdaaGreat
/- records and items as arguments -/
namespace Go.Proofs.YthhceggcdaljdaaGreat
open Go.ChangeShapes Go.WideShapes Go.ChangeAt Go.RowKit Go.Deep
set_option linter.unusedVariables false
set_option linter.unusedSimpArgs false

theorem rec_cells : Tryz.prog.cellTypes Tryz.prog.depth 27 = some [2, 2] := by kernel_rfl
theorem rec_size : Tryz.prog.cellsOf 27 = 2 := by kernel_rfl
theorem item_size : Tryz.prog.cellsOf 57 = 3 := by kernel_rfl
theorem int64_size : Tryz.prog.cellsOf 2 = 1 := by kernel_rfl
theorem int_sizeI : Tryz.prog.cellsOf 3 = 1 := by kernel_rfl
set_option maxRecDepth 100000 in
theorem open_rec {W : World} {r : Reach} {b : Nat} {v : Value} (h : Value.okWide Tryz.prog W r b 27 v) : ∃ x : RV, v = x.val := by
  unfold Value.okWide at h
  rw [Tryz.underlying27] at h
  obtain ⟨cs, rfl, hsz, ts, hts, _, hall⟩ := h
  rw [rec_cells] at hts
  obtain rfl := Option.some.inj hts
  rw [rec_size] at hsz
  obtain ⟨l⟩ := cs
  match l, hsz with
  | [v0, v1], _ =>
    have g : ∀ (i : Nat) (v : Value), (#[v0, v1] : Array Value)[i]? = some v → ∃ n : Int, v = Value.int .i64 n ∧ IntKind.i64.has n := by
      intro i v hv
      obtain ⟨u, hu, hc⟩ := hall i v hv
      have hi : i < 2 := by have := (Array.getElem?_eq_some_iff.1 hv).1; simpa using this
      have hu3 : u = 2 := by
        match i, hi, hu with
        | 0, _, hu => simpa using hu.symm
        | 1, _, hu => simpa using hu.symm
      subst hu3
      exact cell_int Tryz.underlying2 hc
    obtain ⟨d, rfl, h0⟩ := g 0 v0 rfl
    obtain ⟨c0, rfl, h1⟩ := g 1 v1 rfl
    exact ⟨⟨d, c0⟩, rfl⟩
section
variable {H : Type} {enc : TypeId × Value → H} {w : World} {base : Nat} {sp : Nat → Bool} {held : Bool}
set_option maxRecDepth 100000 in
theorem open_rec_cells (n : Nat) (cs : List Value) (x : DataW H × List MemPlace) (h : DataW.trod enc Tryz.prog w base sp held n 27 cs = some x) : ∃ c : RV, cs = c.enc ∧ True := by
  obtain ⟨xs, m, _, _, hl, hxl, hf⟩ := DataW.trod_struct Tryz.underlying27 h
  rw [rec_size] at hl
  match cs, hl with
  | [v0, v1], _ =>
    match xs, hxl with
    | [y0, y1], _ =>
      have g0 := hf 0 ⟨ "K", 2, 0, false, "", "", 0⟩ rfl
      have g1 := hf 1 ⟨ "V", 2, 1, false, "", "", 8⟩ rfl
      dsimp only at g0 g1
      rw [int64_size] at g0 g1
      simp only [List.drop_zero, List.take_succ_cons, List.take_zero, List.drop_succ_cons, List.getElem?_cons_zero, List.getElem?_cons_succ] at g0 g1
      obtain ⟨t, e0, _, _⟩ := DataW.trod_int Tryz.underlying2 g0
      obtain ⟨k, e1, _, _⟩ := DataW.trod_int Tryz.underlying2 g1
      refine ⟨⟨t, k⟩, ?_, trivial⟩
      have r : [v0, v1] = [v0] ++ [v1] := rfl
      rw [r, e0, e1]
      rfl
set_option maxRecDepth 100000 in
theorem open_item_cells (n : Nat) (cs : List Value) (x : DataW H × List MemPlace) (h : DataW.trod enc Tryz.prog w base sp held n 57 cs = some x) : ∃ c : IV, cs = c.enc ∧ (-9223372036854775808 ≤ c.n ∧ c.n ≤ 9223372036854775807) := by
  obtain ⟨xs, m, _, _, hl, hxl, hf⟩ := DataW.trod_struct Tryz.underlying57 h
  rw [item_size] at hl
  match cs, hl with
  | [v0, v1, v2], _ =>
    match xs, hxl with
    | [y0, y1], _ =>
      have g0 := hf 0 ⟨ "Rec", 27, 0, false, "", "", 0⟩ rfl
      have g1 := hf 1 ⟨ "N", 3, 2, false, "", "", 16⟩ rfl
      dsimp only at g0 g1
      rw [rec_size] at g0
      rw [int_sizeI] at g1
      simp only [List.drop_zero, List.take_succ_cons, List.take_zero, List.drop_succ_cons, List.getElem?_cons_zero, List.getElem?_cons_succ] at g0 g1
      obtain ⟨t, e0, _⟩ := open_rec_cells _ _ _ g0
      obtain ⟨k, e1, _, hwf⟩ := DataW.trod_int Tryz.underlying3 g1
      refine ⟨⟨t, k⟩, ?_, ?_⟩
      · have r : [v0, v1, v2] = [v0, v1] ++ [v2] := rfl
        rw [r, e0, e1]
        rfl
      · have hh := Bool.and_eq_true_iff.1 hwf
        exact ⟨of_decide_eq_true hh.1, of_decide_eq_true hh.2⟩
set_option maxRecDepth 100000 in
theorem open_items {r : Reach} {b0 : Nat} {v : Value} {d : DataW H} {ps : List MemPlace} (hval : Value.okWide Tryz.prog w r b0 37 v) (hd : DataW.Trod enc Tryz.prog w base sp held 37 v d ps) : ∃ xs : List IV, RI.Is w v xs ∧ capOk v ∧ ∀ x ∈ xs, -9223372036854775808 ≤ x.n ∧ x.n ≤ 9223372036854775807 :=
  open_rows RI _ item_size open_item_cells hval hd
set_option maxRecDepth 100000 in
theorem open_recs {r : Reach} {b0 : Nat} {v : Value} {d : DataW H} {ps : List MemPlace} (hval : Value.okWide Tryz.prog w r b0 221 v) (hd : DataW.Trod enc Tryz.prog w base sp held 221 v d ps) : ∃ xs : List RV, RR.Is w v xs ∧ capOk v := by
  obtain ⟨xs, h1, h2, _⟩ := open_rows RR (fun _ => True) rec_size open_rec_cells hval hd
  exact ⟨xs, h1, h2⟩
end
end Go.Proofs.YthhceggcdaljdaaGreat
namespace Go.Proofs.YthhceggcdaljdaaGreat
open Go.ChangeShapes Go.WideShapes Go.ChangeAt Go.RowKit
set_option linter.unusedVariables false
section
variable {P : Program}
theorem open_num {W : World} {r : Reach} {b : Nat} {t : TypeId} {k : IntKind} {v : Value} (ht : P.underlying t = some (.int k)) (h : Value.okWide P W r b t v) : ∃ n, v = .int k n ∧ k.has n := by
  unfold Value.okWide at h
  rw [ht] at h
  exact cell_int ht h
theorem open_flag {W : World} {r : Reach} {b : Nat} {t : TypeId} {v : Value} (ht : P.underlying t = some .bool) (h : Value.okWide P W r b t v) : ∃ c, v = .bool c := by
  unfold Value.okWide at h
  rw [ht] at h
  unfold Cell.okWide Cell.ok at h
  rw [ht] at h
  cases v <;> simp at h
  exact ⟨_, rfl⟩
end
end Go.Proofs.YthhceggcdaljdaaGreat
/- a cell as an argument -/
namespace Go.Proofs.YthhceggcdaljdaaGreat
open Go.ChangeShapes Go.WideShapes Go.ChangeAt Go.RowKit Go.Deep
set_option linter.unusedVariables false
set_option linter.unusedSimpArgs false

theorem slot_sizeC : Tryz.prog.cellsOf 40 = 10 := by kernel_rfl
theorem time_sizeC : Tryz.prog.cellsOf 25 = 5 := by kernel_rfl
theorem int_sizeC : Tryz.prog.cellsOf 3 = 1 := by kernel_rfl
theorem arr_sizeC : Tryz.prog.cellsOf 23 = 4 := by kernel_rfl
theorem two_sizeC : Tryz.prog.cellsOf 38 = 2 := by kernel_rfl
theorem sl_sizeC : Tryz.prog.cellsOf 37 = 1 := by kernel_rfl
theorem bool_sizeC : Tryz.prog.cellsOf 4 = 1 := by kernel_rfl
theorem item_sizeC : Tryz.prog.cellsOf 57 = 3 := by kernel_rfl
section
variable {H : Type} {enc : TypeId × Value → H} {w : World} {base : Nat} {sp : Nat → Bool} {held : Bool}
set_option maxRecDepth 100000 in
/-- a slice within an argument -/
theorem open_rowsC {α : Type} [Inhabited α] (R : RowKind α) (P : α → Prop) (hk : Tryz.prog.cellsOf R.tE = R.k)
    (hcell : ∀ (n : Nat) (cs : List Value) (x : DataW H × List MemPlace), DataW.trod enc Tryz.prog w base sp held n R.tE cs = some x → ∃ a : α, cs = R.enc a ∧ P a)
    {fuel : Nat} {cs : List Value} {x : DataW H × List MemPlace} (h : DataW.trod enc Tryz.prog w base sp held fuel R.tS cs = some x) : ∃ (p : Option Addr) (n c : Nat) (xs : List α), cs = [.slice p n c] ∧ R.Is w (.slice p n c) xs ∧ n ≤ c ∧ ∀ x ∈ xs, P x := by
  rcases open_slice R.under h with ⟨e, _⟩ | ⟨a, len, cap, m, n, D, Pl, e, hb, hl, hm, hmm, _, hx⟩
  · exact ⟨none, 0, 0, [], e, .inl ⟨rfl, none, 0, rfl, fun _ => rfl⟩, Nat.le_refl _, fun x hx => by cases hx⟩
  · have hlm : len ≤ m := by rw [hmm]; split <;> omega
    rw [hk] at hx
    have each : ∀ i, i < m → ∃ t : α, P t ∧ ∀ k u, (R.enc t)[k]? = some u → w.cell? ((a.add (i * R.k)).add k) = some u := by
      intro i hi
      obtain ⟨cs', h1, h2⟩ := hx i hi
      obtain ⟨_, hlen, hcl⟩ := World.cells?_some h1
      obtain ⟨t, rfl, hp⟩ := hcell _ _ _ h2
      refine ⟨t, hp, fun k u hu => ?_⟩
      have hk5 : k < R.k := by have := (List.getElem?_eq_some_iff.1 hu).1; rw [R.len] at this; exact this
      rw [hcl k hk5]
      exact hu
    obtain ⟨T, hT⟩ := choose_lt each
    by_cases h0 : len = 0
    · subst h0
      exact ⟨some a, 0, cap, [], e, .inl ⟨rfl, some a, cap, rfl, fun h => by cases h⟩, by omega, fun x hx => by cases hx⟩
    · have hk0 := R.k0
      obtain ⟨u0, hu0⟩ : ∃ u, (R.enc (T 0))[0]? = some u := ⟨_, List.getElem?_eq_getElem (by rw [R.len]; exact hk0)⟩
      have c00 := (hT 0 (by omega)).2 0 _ hu0
      have hspot : a.spot = none := by
        rw [add_add] at c00
        unfold World.cell? at c00
        split at c00
        · split at c00
          · cases c00
          · rename_i hn
            simp [Addr.add] at hn
            exact hn
        · cases c00
      obtain ⟨b, off, spot⟩ := a
      simp only at hspot
      subst hspot
      have hbl : b < w.heap.size := World.block_lt_of_cell? _ _ (by rw [add_add, Nat.add_zero, Addr.add_lit] at c00; exact c00)
      refine ⟨some ⟨b, off, none⟩, len, cap, (List.range len).map T, e, .inr ⟨by simp [h0], b, off, cap, by simp, hbl, ?_⟩, by omega, fun x hx => ?_⟩
      · intro j hj i u hu
        have hj' : j < len := by simpa using hj
        have hg : ((List.range len).map T)[j]! = T j := by simp [hj']
        rw [hg] at hu
        have := (hT j (by omega)).2 i u hu
        rw [add_add, Addr.add_lit, ← Nat.add_assoc] at this
        exact this
      · obtain ⟨j, hj, rfl⟩ := List.mem_map.1 hx
        exact (hT j (by have := List.mem_range.1 hj; omega)).1
set_option maxRecDepth 100000 in
theorem open_time_cellsC {n : Nat} {cs : List Value} {x : DataW H × List MemPlace} (h : DataW.trod enc Tryz.prog w base sp held n 25 cs = some x) : ∃ d c0 c1 c2 c3 : Int, cs = [.int .i64 d, .int .i64 c0, .int .i64 c1, .int .i64 c2, .int .i64 c3] := by
  obtain ⟨xs, m, _, _, hl, hxl, hf⟩ := DataW.trod_struct Tryz.underlying25 h
  rw [time_sizeC] at hl
  match cs, hl with
  | [v0, v1, v2, v3, v4], _ =>
    match xs, hxl with
    | [y0, y1], _ =>
      have g0 := hf 0 ⟨ "D", 3, 0, false, "", "", 0⟩ rfl
      have g1 := hf 1 ⟨ "C", 23, 1, false, "", "", 8⟩ rfl
      dsimp only at g0 g1
      rw [int_sizeC] at g0
      rw [arr_sizeC] at g1
      simp only [ List.drop_zero, List.take_succ_cons, List.take_zero, List.drop_succ_cons, List.getElem?_cons_zero, List.getElem?_cons_succ] at g0 g1
      obtain ⟨d, e0, _, _⟩ := DataW.trod_int Tryz.underlying3 g0
      obtain ⟨zs, k, _, _, hz, hzl, hg⟩ := DataW.trod_array Tryz.underlying23 g1
      match zs, hzl with
      | [z0, z1, z2, z3], _ =>
        have a0 := hg 0 (by decide)
        have a1 := hg 1 (by decide)
        have a2 := hg 2 (by decide)
        have a3 := hg 3 (by decide)
        simp only [int_sizeC] at a0 a1 a2 a3
        simp at a0 a1 a2 a3
        obtain ⟨c0, b0, _, _⟩ := DataW.trod_int Tryz.underlying3 a0
        obtain ⟨c1, b1, _, _⟩ := DataW.trod_int Tryz.underlying3 a1
        obtain ⟨c2, b2, _, _⟩ := DataW.trod_int Tryz.underlying3 a2
        obtain ⟨c3, b3, _, _⟩ := DataW.trod_int Tryz.underlying3 a3
        have r0 : [v0] = [Value.int .i64 d] := e0
        have r1 : [v1] = [Value.int .i64 c0] := b0
        have r2 : [v2] = [Value.int .i64 c1] := b1
        have r3 : [v3] = [Value.int .i64 c2] := b2
        have r4 : [v4] = [Value.int .i64 c3] := b3
        obtain rfl := (List.cons.inj r0).1
        obtain rfl := (List.cons.inj r1).1
        obtain rfl := (List.cons.inj r2).1
        obtain rfl := (List.cons.inj r3).1
        obtain rfl := (List.cons.inj r4).1
        exact ⟨d, c0, c1, c2, c3, rfl⟩
set_option maxRecDepth 100000 in
theorem open_slot_cells (n : Nat) (cs : List Value) (x : DataW H × List MemPlace) (h : DataW.trod enc Tryz.prog w base sp held n 40 cs = some x) : ∃ y : SW, cs = RSl.enc y ∧ ∃ b : SV, isSl w y b := by
  obtain ⟨xs, m, _, _, hl, hxl, hf⟩ := DataW.trod_struct Tryz.underlying40 h
  rw [slot_sizeC] at hl
  match cs, hl with
  | [v0, v1, v2, v3, v4, v5, v6, v7, v8, v9], _ =>
    match xs, hxl with
    | [y0, y1, y2, y3, y4], _ =>
      have g0 := hf 0 ⟨ "Time", 25, 0, false, "", "", 0⟩ rfl
      have g1 := hf 1 ⟨ "In", 38, 5, false, "", "", 40⟩ rfl
      have g2 := hf 2 ⟨ "Sent", 37, 7, false, "", "", 88⟩ rfl
      have g3 := hf 3 ⟨ "Dirty", 4, 8, false, "", "", 112⟩ rfl
      have g4 := hf 4 ⟨ "Fired", 4, 9, false, "", "", 113⟩ rfl
      dsimp only at g0 g1 g2 g3 g4
      rw [time_sizeC] at g0
      rw [two_sizeC] at g1
      rw [sl_sizeC] at g2
      rw [bool_sizeC] at g3 g4
      simp only [List.drop_zero, List.take_succ_cons, List.take_zero, List.drop_succ_cons, List.getElem?_cons_zero, List.getElem?_cons_succ] at g0 g1 g2 g3 g4
      obtain ⟨d, c0, c1, c2, c3, e0⟩ := open_time_cellsC g0
      obtain ⟨zs, k, _, _, hz, hzl, hg⟩ := DataW.trod_array Tryz.underlying38 g1
      match zs, hzl with
      | [z0, z1], _ =>
        have a0 := hg 0 (by decide)
        have a1 := hg 1 (by decide)
        simp only [sl_sizeC] at a0 a1
        simp at a0 a1
        obtain ⟨p0, k0, q0, L0, b0, hI0, hk0, _⟩ := open_rowsC RI _ item_sizeC open_item_cells a0
        obtain ⟨p1, k1, q1, L1, b1, hI1, hk1, _⟩ := open_rowsC RI _ item_sizeC open_item_cells a1
        obtain ⟨p2, k2, q2, L2, e2, hI2, hk2, _⟩ := open_rowsC RI _ item_sizeC open_item_cells g2
        obtain ⟨t3, e3, _⟩ := DataW.trod_bool Tryz.underlying4 g3
        obtain ⟨t4, e4, _⟩ := DataW.trod_bool Tryz.underlying4 g4
        obtain ⟨_, _, f0⟩ := hI0.slice
        obtain ⟨_, _, f1⟩ := hI1.slice
        obtain ⟨_, _, f2⟩ := hI2.slice
        simp only [Value.slice.injEq] at f0 f1 f2
        refine ⟨⟨⟨d, c0, c1, c2, c3⟩, p0, k0, q0, p1, k1, q1, p2, k2, q2, t3, t4⟩, ?_, ⟨⟨d, c0, c1, c2, c3⟩, L0, L1, L2, t3, t4⟩, ⟨rfl, rfl, rfl, f0.2.1, hk0, hI0, f1.2.1, hk1, hI1, f2.2.1, hk2, hI2⟩⟩
        have r5 : [v5] = [Value.slice p0 k0 q0] := b0
        have r6 : [v6] = [Value.slice p1 k1 q1] := b1
        have r : [v0, v1, v2, v3, v4, v5, v6, v7, v8, v9] = [v0, v1, v2, v3, v4] ++ ([v5] ++ ([v6] ++ ([v7] ++ ([v8] ++ [v9])))) := rfl
        rw [r, e0, r5, r6, e2, e3, e4]
        rfl
theorem slots_of {w : World} : ∀ (xs : List SW), (∀ x ∈ xs, ∃ b : SV, isSl w x b) → ∃ c : List SV, areSl w xs c
  | [], _ => ⟨[], rfl, fun i hi => absurd hi (by simp)⟩
  | x :: xs, h => by
    obtain ⟨b, h1⟩ := h x List.mem_cons_self
    obtain ⟨c, h3, h4⟩ := slots_of xs fun y hy => h y (List.mem_cons_of_mem _ hy)
    refine ⟨b :: c, by simp [h3], fun i hi => ?_⟩
    cases i with
    | zero => exact h1
    | succ i =>
      have hi : i < c.length := by simpa using hi
      have := h4 i hi
      simpa using this
set_option maxRecDepth 100000 in
theorem open_cell {r : Reach} {b0 : Nat} {v : Value} {d : DataW H} {ps : List MemPlace} (hval : Value.okWide Tryz.prog w r b0 22 v) (hd : DataW.Trod enc Tryz.prog w base sp held 22 v d ps) : ∃ c : List SV, IsCl w v c ∧ capOk v := by
  obtain ⟨xs, h1, h2, h3⟩ := open_rows RSl (fun x => ∃ b : SV, isSl w x b) slot_sizeC open_slot_cells hval hd
  obtain ⟨c, h4⟩ := slots_of xs h3
  exact ⟨c, ⟨xs, h1, h4⟩, h2⟩
end
end Go.Proofs.YthhceggcdaljdaaGreat
namespace Go.Proofs.YthhceggcdaljdaaGreat
open Go.ChangeShapes Go.WideShapes Go.ChangeAt Go.RowKit
set_option linter.unusedVariables false

theorem time_cells : Tryz.prog.cellTypes Tryz.prog.depth 25 = some [3, 3, 3, 3, 3] := by kernel_rfl
theorem time_size : Tryz.prog.cellsOf 25 = 5 := by kernel_rfl
set_option maxRecDepth 100000 in
theorem open_time {W : World} {r : Reach} {b : Nat} {v : Value} (h : Value.okWide Tryz.prog W r b 25 v) :
    ∃ d c0 c1 c2 c3 : Int, v = .agg #[.int .i64 d, .int .i64 c0, .int .i64 c1, .int .i64 c2, .int .i64 c3] ∧ IntKind.i64.has d ∧ IntKind.i64.has c0 ∧ IntKind.i64.has c1 ∧ IntKind.i64.has c2 ∧ IntKind.i64.has c3 := by
  unfold Value.okWide at h
  rw [Tryz.underlying25] at h
  obtain ⟨cs, rfl, hsz, ts, hts, _, hall⟩ := h
  rw [time_cells] at hts
  obtain rfl := Option.some.inj hts
  rw [time_size] at hsz
  obtain ⟨l⟩ := cs
  match l, hsz with
  | [v0, v1, v2, v3, v4], _ =>
    have g : ∀ (i : Nat) (v : Value), (#[v0, v1, v2, v3, v4] : Array Value)[i]? = some v → ∃ n : Int, v = Value.int .i64 n ∧ IntKind.i64.has n := by
      intro i v hv
      obtain ⟨u, hu, hc⟩ := hall i v hv
      have hi : i < 5 := by have := (Array.getElem?_eq_some_iff.1 hv).1; simpa using this
      have hu3 : u = 3 := by
        match i, hi, hu with
        | 0, _, hu => simpa using hu.symm
        | 1, _, hu => simpa using hu.symm
        | 2, _, hu => simpa using hu.symm
        | 3, _, hu => simpa using hu.symm
        | 4, _, hu => simpa using hu.symm
      subst hu3
      exact cell_int Tryz.underlying3 hc
    obtain ⟨d, rfl, h0⟩ := g 0 v0 rfl
    obtain ⟨c0, rfl, h1⟩ := g 1 v1 rfl
    obtain ⟨c1, rfl, h2⟩ := g 2 v2 rfl
    obtain ⟨c2, rfl, h3⟩ := g 3 v3 rfl
    obtain ⟨c3, rfl, h4⟩ := g 4 v4 rfl
    exact ⟨d, c0, c1, c2, c3, rfl, h0, h1, h2, h3, h4⟩
end Go.Proofs.YthhceggcdaljdaaGreat
