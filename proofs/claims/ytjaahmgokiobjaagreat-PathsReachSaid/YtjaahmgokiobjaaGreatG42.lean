import Derived.Test.YtjaahmgokiobjaaGreatG41
import Derived.Test.YtjaahmgokiobjaaGreatG12
import Derived.Test.YtjaahmgokiobjaaGreatG40
import Derived.Test.YtjaahmgokiobjaaGreatG16
import Derived.Test.YtjaahmgokiobjaaGreatG18
namespace Go.Proofs.YtjaahmgokiobjaaGreat
open Go.RowKit
set_option linter.unusedVariables false
set_option linter.unusedSimpArgs false

theorem foldl_take (ys : List TV) (k : Nat) (hk : k < ys.length) : (ys.take (k + 1)).foldl lowStep [] = lowStep ((ys.take k).foldl lowStep []) ys[k]! := by
  rw [take_get ys k hk, List.foldl_append]
  rfl
set_option maxRecDepth 100000 in
set_option maxHeartbeats 8000000 in
/-- chain.Of: the lowest, in a row of the call's own -/
theorem of_any (xs : List TV) (v : Value) (w : World) (hl : xs.length ≤ 2000000000000) (h : IsT w v xs) : Calls Tryz.prog 23 #[v] w (MadeT (ofT xs) w) := by
  have HO := Lib.hid (ordered_any xs v w hl h)
  have hm := sortedT_length xs
  have hrep : ofT xs = (sortedT xs).foldl lowStep [] := rfl
  generalize ofT xs = res at hrep ⊢
  generalize sortedT xs = ys at HO hm hrep
  have HR := Lib.hid hrep
  clear hrep h
  go_enter Tryz.func23, Tryz.ntmps23
  go_wp2_with fail
  refine (HO.out).mono ?_
  rintro e w1 ⟨u, rfl, hO, hB⟩
  have HB1 := Lib.hid hB
  clear hB HO
  rcases hO.is with ⟨rfl, p, cap, rfl, _⟩ | ⟨hne, b, off, cap, rfl, hb, hr⟩
  · clear hO
    go_wp2
    refine wp_loop_rounds 1 ?_
    rw [rounds_succ]
    go_wp2
    go_returns
    rw [HR.out]
    exact ⟨_, rfl, OwnTT.nil _ _, HB1.out⟩
  · have hrow : Hid (∀ (W : World), Below w1.heap.size w1 W → ∀ j, j < ys.length → _) := fun W hW j hj => (hr.below hW hb).at j hj
    clear hr hO hne
    generalize hn : ys.length = n at hm
    have HN := Lib.hid hn
    clear hn
    go_wp2
    go_loopg [3, 9] n (fun gg v i wr => ∃ k : Nat, k ≤ n ∧ n - k ≤ gg ∧ i = .int .i64 k ∧ Hid (Below w1.heap.size w1 wr) ∧ Hid (OwnTT w1.heap.size wr v ((ys.take k).foldl lowStep [])))
    case atStart => exact ⟨0, Nat.zero_le _, by omega, rfl, Below.refl _ _, OwnTT.nil _ _⟩
    case round =>
      obtain ⟨k, hkn, hg, rfl, HB, HO⟩ := hrel
      by_cases hlt : k < n
      · have hlz : (k : Int) < (n : Int) := by omega
        have hc := hrow.out wr HB.out k (by rw [HN.out]; exact hlt)
        have hf := foldl_take ys k (by rw [HN.out]; exact hlt)
        have hlen : ((ys.take k).foldl lowStep []).length ≤ 2000000000000 := by
          have h1 := low_length (ys.take k) []
          rw [List.length_take] at h1
          simp at h1
          omega
        generalize (ys.take k).foldl lowStep [] = acc at HO hf hlen
        generalize hy : ys[k]! = y at hc hf
        have HF := Lib.hid hf; clear hf hy
        obtain ⟨e0, e1, e2, e3, e4⟩ := hc
        clear hrow
        have hsz := HB.out.size
        have hcov := covers_any acc y u3 (wr.alloc (.cells #[.int .i64 y.d, .int .i64 y.c0, .int .i64 y.c1, .int .i64 y.c2, .int .i64 y.c3] 29)) hlen (HO.out.alloc _).is
        have hlow : lowStep acc y = if cov acc y then acc else acc ++ [y] := rfl
        generalize hq : cov acc y = q at hcov hlow
        have HC := Lib.hid hcov; have HL := Lib.hid hlow
        clear hcov hlow hq
        go_wp2_with fail
        refine (HC.out).mono ?_
        rintro e w2 ⟨rfl, hb1⟩
        have hz := hb1.size
        have hBx := (Own5.new wr (.int .i64 y.d) (.int .i64 y.c0) (.int .i64 y.c1) (.int .i64 y.c2) (.int .i64 y.c3) 29).below hb1 (by simp)
        have hO1 : OwnTT w1.heap.size w2 u3 acc := (HO.out.alloc _).below hb1
        have hB2 : Below w1.heap.size w1 w2 := bcall (HB.out.alloc hsz _) hb1 (by simp; omega)
        rw [World.size_alloc] at hz
        have hz2 := hB2.size
        clear hb1 e0 e1 e2 e3 e4 HB HO HC
        have HB2 := Lib.hid hB2; have HO1 := Lib.hid hO1
        clear hB2 hO1
        obtain ⟨p0, p1, p2, p3, p4, q0, q1, q2, q3, q4⟩ := hBx
        cases q
        · go_wp2_with (at_builtin; refine OwnTT.push HO1.out HB2.out hz2 rfl _ _ rfl rfl _ rfl hlen ?_; intro v3 w3 hO2 hB3 hz3)
          go_roundg (n - (k + 1))
          case measure => omega
          case rel =>
            refine ⟨k + 1, by omega, by omega, by go_num, hB3, ?_⟩
            show OwnTT _ _ _ _
            rw [HF.out, HL.out]
            exact hO2
        · go_wp2
          go_roundg (n - (k + 1))
          case measure => omega
          case rel =>
            refine ⟨k + 1, by omega, by omega, by go_num, HB2.out, ?_⟩
            show OwnTT _ _ _ _
            rw [HF.out, HL.out]
            exact HO1.out
      · have hlz : ¬ (k : Int) < (n : Int) := by omega
        have : k = n := by omega
        subst this
        have HX : Hid (OwnTT w1.heap.size wr u3 res) := by
          have h := HO.out
          rw [List.take_of_length_le (by rw [HN.out]; exact Nat.le_refl _)] at h
          show OwnTT _ _ _ _
          rw [HR.out]
          exact h
        clear HO hrow
        go_wp2
        go_returns
        exact ⟨_, rfl, HX.out.mono HB1.out.size, HB1.out.trans (HB.out.mono HB1.out.size)⟩
end Go.Proofs.YtjaahmgokiobjaaGreat
/- plain: of one place to another one there are few lowest steps: none is at or before another one, so three numbers and how many are kept tell them apart -/
namespace Go.Proofs.YtjaahmgokiobjaaGreat
open Go.RowKit
set_option linter.unusedVariables false
set_option linter.unusedSimpArgs false

def codeL (x : HV) : Nat := ((x.k.toNat * 130 + cH x 0) * 130 + cH x 1) * 130 + cH x 2
theorem codeL_lt {x : HV} (hr : x.rightB = true) (h : ∀ j : Nat, (j : Int) < x.k + x.t → x.at j ≤ 129) : codeL x < 10985000 := by
  have s := right_size (shape_of hr)
  have a0 := cH_lt h 0; have a1 := cH_lt h 1; have a2 := cH_lt h 2
  have k4 : x.k.toNat ≤ 4 := by omega
  unfold codeL
  omega
theorem codeL_le {x y : HV} (hx : x.rightB = true) (hy : y.rightB = true) (hf : x.f = y.f) (hg : x.k + x.t = y.k + y.t) (bx : ∀ j : Nat, (j : Int) < x.k + x.t → x.at j ≤ 129) (by' : ∀ j : Nat, (j : Int) < y.k + y.t → y.at j ≤ 129) (h : codeL x = codeL y)
    (h3 : x.at 3 ≤ y.at 3) : leH x y = true := by
  have sx := right_size (shape_of hx); have sy := right_size (shape_of hy)
  have a0 := cH_lt bx 0; have a1 := cH_lt bx 1; have a2 := cH_lt bx 2
  have b0 := cH_lt by' 0; have b1 := cH_lt by' 1; have b2 := cH_lt by' 2
  unfold codeL at h
  have e2 : cH x 2 = cH y 2 := by omega
  have e1 : cH x 1 = cH y 1 := by omega
  have e0 : cH x 0 = cH y 0 := by omega
  have ek : x.k.toNat = y.k.toNat := by omega
  have hk : x.k = y.k := by omega
  have key : ∀ j : Nat, cH x j = cH y j → (j : Int) < x.k + x.t → x.at j = y.at j := fun j e hj => by
    unfold cH at e
    rw [if_pos hj, if_pos (by omega)] at e
    have := at_bound (shape_of hx) j; have := at_bound (shape_of hy) j
    omega
  refine (leH_iff x y).2 ⟨hx, hy, hf, hg, fun j hj => ⟨?_, by omega⟩⟩
  have : j = 0 ∨ j = 1 ∨ j = 2 ∨ j = 3 := by omega
  rcases this with rfl | rfl | rfl | rfl
  · exact Int.le_of_eq (key 0 e0 hj)
  · exact Int.le_of_eq (key 1 e1 hj)
  · exact Int.le_of_eq (key 2 e2 hj)
  · exact h3
theorem low_few {l : List HV} {f g : Int} (hn : l.Nodup) (ha : ∀ h ∈ l, ∀ x ∈ l, leH x h = true → x = h) (h : ∀ x ∈ l, x.rightB = true ∧ x.f = f ∧ x.k + x.t = g ∧ ∀ j : Nat, (j : Int) < x.k + x.t → x.at j ≤ 129) : l.length ≤ 10985000 := by
  have hm : (l.map codeL).Nodup := by
    unfold List.Nodup
    rw [List.pairwise_map]
    refine List.Pairwise.imp_of_mem (R := fun a b => a ≠ b) ?_ hn
    intro a b ha' hb hab e
    obtain ⟨ra, fa, ga, ba⟩ := h a ha'
    obtain ⟨rb, fb, gb, bb⟩ := h b hb
    by_cases q : a.at 3 ≤ b.at 3
    · exact hab (ha b hb a ha' (codeL_le ra rb (fa.trans fb.symm) (ga.trans gb.symm) ba bb e q))
    · exact hab (ha a ha' b hb (codeL_le rb ra (fb.trans fa.symm) (gb.trans ga.symm) bb ba e.symm (by omega))).symm
  have := nodup_len (m := List.range 10985000) hm (fun c hc => by
    obtain ⟨x, hx, rfl⟩ := List.mem_map.1 hc
    exact List.mem_range.2 (codeL_lt (h x hx).1 (h x hx).2.2.2))
  rw [List.length_map, List.length_range] at this
  exact this
theorem low_ways {E : List NE} {D : Nat → Int} {N n m : Nat} {h0 : HV} (F : Fine E D N) (hn : n < N) (hN : N ≤ 32) (h0r : h0.rightB = true) (h0d : h0.k + h0.t = D n) (h0z : ∀ j : Nat, (j : Int) < h0.k + h0.t → h0.at j ≤ 0) {l : List HV} (L : LeastOf (Way E n h0 m) l) : l.length ≤ 10985000 := by
  refine low_few (f := h0.f) (g := D m) L.nodup L.anti fun x hx => ?_
  obtain ⟨es, hE, q⟩ := L.mem x hx
  have o := run_ok F hE h0r h0d q
  obtain ⟨es', h', hE', hl', q', hle⟩ := short_way F hn h0r h0d h0z (by omega) (Nat.le_refl _) hE q
  obtain ⟨y, hy, hyl⟩ := L.cover h' ⟨es', hE', q'⟩
  have e := L.anti x hx y hy (leH_trans hyl hle)
  subst e
  have e2 := leH_anti hyl hle
  subst e2
  have b := run_bound F (c := 0) hE' h0r h0d (Int.le_refl _) h0z q'
  exact ⟨o.1, o.2.2, o.2.1, fun j hj => by have := b j hj; omega⟩
end Go.Proofs.YtjaahmgokiobjaaGreat
/- the table and the points in memory; what comes of points by steps -/
namespace Go.Proofs.YtjaahmgokiobjaaGreat
open Go.RowKit
set_option linter.unusedVariables false
set_option linter.unusedSimpArgs false

def RTi : RowKind TV where
  enc := TV.enc
  k := 5
  k0 := by decide
  len := fun _ => rfl
  one := enc_one
  tE := 29
  tS := 33
  zero := .agg #[.int .i64 0, .int .i64 0, .int .i64 0, .int .i64 0, .int .i64 0]
  bytes := 40
  info := by kernel_rfl
  under := Tryz.underlying33
  zlen := rfl
  byt := by decide
def RSt : RowKind SV where
  enc := fun s => [s.val]
  k := 1
  k0 := by decide
  len := fun _ => rfl
  one := by
    intro c u hu
    simp at hu
    subst hu
    rfl
  tE := 33
  tS := 30
  zero := .slice none 0 0
  bytes := 24
  info := by kernel_rfl
  under := Tryz.underlying30
  zlen := rfl
  byt := by decide
/-- v is a list of these lists of timestamps -/
def IsPts (w : World) (v : Value) (pts : List (List TV)) : Prop := ∃ svs : List SV, RSt.Is w v svs ∧ svs.length = pts.length ∧ ∀ m, m < pts.length → RTi.Is w svs[m]!.val pts[m]!
theorem IsPts.below {w w' : World} {v : Value} {pts : List (List TV)} (h : IsPts w v pts) (hb : Below w.heap.size w w') : IsPts w' v pts := by
  obtain ⟨svs, h1, h2, h3⟩ := h
  exact ⟨svs, h1.below hb, h2, fun m hm => (h3 m hm).below hb⟩
theorem atSt {w : World} {b off : Nat} {xs : List SV} (h : RSt.Row w b off xs) (j : Nat) (hj : j < xs.length) : w.cell? ⟨b, off + j, none⟩ = some xs[j]!.val := by
  have := h j hj 0 _ rfl
  rw [show off + j * RSt.k + 0 = off + j from by show off + j * 1 + 0 = _; omega] at this
  exact this
theorem IsPts.opened {w : World} {v : Value} {pts : List (List TV)} (h : IsPts w v pts) : ∃ p c, v = .slice p pts.length c ∧ ∀ m, m < pts.length → ∃ b off q d, p = some ⟨b, off, none⟩ ∧ RTi.Is w (.slice q (List.length pts[m]!) d) pts[m]! ∧ ∀ W, Below w.heap.size w W → W.cell? ⟨b, off + m, none⟩ = some (.slice q (List.length pts[m]!) d) := by
  obtain ⟨svs, h1, h2, h3⟩ := h
  obtain ⟨p, c, rfl, ho⟩ := RowKind.Is.opened h1
  refine ⟨p, c, by rw [h2], fun m hm => ?_⟩
  obtain ⟨b, off, e, hb, hr⟩ := ho m (by omega)
  have hi := h3 m hm
  obtain ⟨q, d, hs⟩ := hi.slice
  rw [hs] at hi
  exact ⟨b, off, q, d, e, hi, fun W hW => by rw [← hs]; exact atSt (hr.below hW hb) m (by omega)⟩
/-- a table in memory: of each two operators these steps -/
structure TabW (W : World) (bt N : Nat) (rws : Nat → Nat → List HV) : Prop where
  row : ∀ n, n < N → ∃ blk, W.cell? ⟨bt, n, none⟩ = some (.slice (some ⟨blk, 0, none⟩) N N) ∧ ∀ m, m < N → ∃ q l c, W.cell? ⟨blk, m, none⟩ = some (.slice q l c) ∧ l = (rws n m).length ∧ RHp.Is W (.slice q l c) (rws n m)
theorem TabW.below {W W' : World} {bt N : Nat} {rws : Nat → Nat → List HV} (h : TabW W bt N rws) (hb : Below W.heap.size W W') : TabW W' bt N rws :=
  ⟨fun n hn => by
    obtain ⟨blk, h1, h2⟩ := h.row n hn
    refine ⟨blk, (hb.cell (p := ⟨bt, n, none⟩) (World.block_lt_of_cell? _ _ h1)).trans h1, fun m hm => ?_⟩
    obtain ⟨q, l, c, h3, h4, h5⟩ := h2 m hm
    exact ⟨q, l, c, (hb.cell (p := ⟨blk, m, none⟩) (World.block_lt_of_cell? _ _ h3)).trans h3, h4, h5.below hb⟩⟩
/-- the table that Table answered, as it lies -/
theorem TabS.tab {low : Nat → List (List HV)} {N : Nat} {W : World} {bt : Nat} {tl : List SV} (h : TabS low N W bt tl N) : ∃ rws : Nat → Nat → List HV, TabW W bt N rws ∧ ∀ n, n < N → ∀ m, m < N → List.Perm (rws n m) (low n)[m]! := by
  have each : ∀ n : Nat, ∃ rows : List (List HV), n < N → ∃ blk svs, tl[n]! = ⟨some ⟨blk, 0, none⟩, N, N⟩ ∧ OHH (bt + 1) W blk svs rows ∧ rows.length = N ∧ ∀ m, m < N → List.Perm rows[m]! (low n)[m]! := fun n => by
    by_cases hn : n < N
    · obtain ⟨blk, svs, rows, r⟩ := h.row n hn
      exact ⟨rows, fun _ => ⟨blk, svs, r⟩⟩
    · exact ⟨[], fun q => absurd q hn⟩
  refine ⟨fun n m => ((each n).choose)[m]!, ⟨fun n hn => ?_⟩, fun n hn m hm => ?_⟩
  · obtain ⟨blk, svs, e, o, hl, hp⟩ := (each n).choose_spec hn
    have hc := h.cell n hn
    rw [e] at hc
    refine ⟨blk, hc, fun m hm => ?_⟩
    have hms : m < svs.length := by rw [o.len, hl]; exact hm
    exact ⟨svs[m]!.p, svs[m]!.n, svs[m]!.c, o.cell m hms, o.get m hms, (o.own m hms).is⟩
  · obtain ⟨blk, svs, e, o, hl, hp⟩ := (each n).choose_spec hn
    exact hp m hm
/-! ### what comes -/
def apL (h : HV) (t : TV) : List TV := if applyOk h t = true then [applyT h t] else []
def comeR (S : List HV) (ts : List TV) : List TV := S.flatMap fun h => ts.flatMap (apL h)
def comeC (S : List HV) (ts : List TV) : List TV := ts.flatMap fun t => S.flatMap fun h => apL h t
def stepsZ (rws : Nat → Nat → List HV) (N : Nat) (n m : Int) : List HV := if (0 ≤ n ∧ n < (N : Int)) ∧ 0 ≤ m ∧ m < (N : Int) then rws n.toNat m.toNat else []
def comeP (S : Nat → List HV) (pts : List (List TV)) (k : Nat) : List TV := (List.range k).flatMap fun n => comeR (S n) pts[n]!
def comeD (S : Nat → List HV) (pts : List (List TV)) (k : Nat) : List TV := (List.range k).flatMap fun n => comeC (S n) pts[n]!
theorem apL_len (h : HV) (t : TV) : (apL h t).length ≤ 1 := by unfold apL; split <;> simp
theorem flat_len {α β : Type} {f : α → List β} {b : Nat} : ∀ {l : List α}, (∀ x ∈ l, (f x).length ≤ b) → (l.flatMap f).length ≤ l.length * b
  | [], _ => by simp
  | x :: l, h => by
    have h1 := h x List.mem_cons_self
    have h2 := flat_len (l := l) fun y hy => h y (List.mem_cons_of_mem _ hy)
    rw [List.flatMap_cons, List.length_append, List.length_cons, Nat.add_mul]
    omega
theorem flat_take {α β : Type} [Inhabited α] (f : α → List β) {l : List α} {k : Nat} (hk : k < l.length) : (l.take (k + 1)).flatMap f = (l.take k).flatMap f ++ f l[k]! := by
  rw [getElem!_pos l k hk, List.take_succ_eq_append_getElem hk, List.flatMap_append]
  simp
theorem comeP_succ (S : Nat → List HV) (pts : List (List TV)) (k : Nat) : comeP S pts (k + 1) = comeP S pts k ++ comeR (S k) pts[k]! := by
  unfold comeP
  rw [List.range_succ, List.flatMap_append]
  simp
theorem comeD_succ (S : Nat → List HV) (pts : List (List TV)) (k : Nat) : comeD S pts (k + 1) = comeD S pts k ++ comeC (S k) pts[k]! := by
  unfold comeD
  rw [List.range_succ, List.flatMap_append]
  simp
theorem row_len (h : HV) {ts : List TV} (ht : ts.length ≤ 40) : (ts.flatMap (apL h)).length ≤ 40 := by
  have := flat_len (f := apL h) (b := 1) (l := ts) fun t _ => apL_len h t
  omega
theorem rows_len {S : List HV} {ts : List TV} (hS : S.length ≤ 10985000) (ht : ts.length ≤ 40) (k : Nat) : ((S.take k).flatMap fun h => ts.flatMap (apL h)).length ≤ 439400000 := by
  have h1 := flat_len (f := fun h => ts.flatMap (apL h)) (b := 40) (l := S.take k) fun h _ => row_len h ht
  have h2 : (S.take k).length ≤ 10985000 := by rw [List.length_take]; omega
  omega
theorem comeR_len {S : List HV} {ts : List TV} (hS : S.length ≤ 10985000) (ht : ts.length ≤ 40) : (comeR S ts).length ≤ 439400000 := by
  have := rows_len hS ht S.length
  rw [List.take_length] at this
  exact this
theorem col_len {S : List HV} (hS : S.length ≤ 10985000) (t : TV) (k : Nat) : ((S.take k).flatMap fun h => apL h t).length ≤ 10985000 := by
  have h1 := flat_len (f := fun h => apL h t) (b := 1) (l := S.take k) fun h _ => apL_len h t
  have h2 : (S.take k).length ≤ 10985000 := by rw [List.length_take]; omega
  omega
theorem cols_len {S : List HV} {ts : List TV} (hS : S.length ≤ 10985000) (ht : ts.length ≤ 40) (k : Nat) : ((ts.take k).flatMap fun t => S.flatMap fun h => apL h t).length ≤ 439400000 := by
  have h1 := flat_len (f := fun t => S.flatMap fun h => apL h t) (b := 10985000) (l := ts.take k) fun t _ => by
    have := col_len hS t S.length
    rw [List.take_length] at this
    exact this
  have h2 : (ts.take k).length ≤ 40 := by rw [List.length_take]; omega
  omega
theorem comeC_len {S : List HV} {ts : List TV} (hS : S.length ≤ 10985000) (ht : ts.length ≤ 40) : (comeC S ts).length ≤ 439400000 := by
  have := cols_len hS ht ts.length
  rw [List.take_length] at this
  exact this
theorem comeP_len {S : Nat → List HV} {pts : List (List TV)} (hS : ∀ n, (S n).length ≤ 10985000) (hp : pts.length ≤ 40) (ht : ∀ n, n < pts.length → List.length pts[n]! ≤ 40) {k : Nat} (hk : k ≤ pts.length) : (comeP S pts k).length ≤ 17576000000 := by
  have h1 := flat_len (f := fun n => comeR (S n) pts[n]!) (b := 439400000) (l := List.range k) fun n hn => comeR_len (hS n) (ht n (by have := List.mem_range.1 hn; omega))
  rw [List.length_range] at h1
  show ((List.range k).flatMap _).length ≤ _
  omega
theorem comeD_len {S : Nat → List HV} {pts : List (List TV)} (hS : ∀ n, (S n).length ≤ 10985000) (hp : pts.length ≤ 40) (ht : ∀ n, n < pts.length → List.length pts[n]! ≤ 40) {k : Nat} (hk : k ≤ pts.length) : (comeD S pts k).length ≤ 17576000000 := by
  have h1 := flat_len (f := fun n => comeC (S n) pts[n]!) (b := 439400000) (l := List.range k) fun n hn => comeC_len (hS n) (ht n (by have := List.mem_range.1 hn; omega))
  rw [List.length_range] at h1
  show ((List.range k).flatMap _).length ≤ _
  omega
theorem mem_comeR {S : List HV} {ts : List TV} {x : TV} : x ∈ comeR S ts ↔ ∃ h ∈ S, ∃ t ∈ ts, x ∈ apL h t := by
  unfold comeR
  simp only [List.mem_flatMap]
theorem mem_comeC {S : List HV} {ts : List TV} {x : TV} : x ∈ comeC S ts ↔ ∃ h ∈ S, ∃ t ∈ ts, x ∈ apL h t := by
  unfold comeC
  simp only [List.mem_flatMap]
  exact ⟨fun ⟨t, a, h, b, c⟩ => ⟨h, b, t, a, c⟩, fun ⟨h, b, t, a, c⟩ => ⟨t, a, h, b, c⟩⟩
theorem come_same {S : Nat → List HV} {pts : List (List TV)} {K : Nat} (hK : K ≤ pts.length) (h0 : ∀ n, K ≤ n → n < pts.length → S n = []) : ofT (comeD S pts K) = ofT (comeP S pts pts.length) := by
  refine ofT_congr fun u => ?_
  have key : ∀ x, x ∈ comeD S pts K ↔ x ∈ comeP S pts pts.length := fun x => by
    unfold comeD comeP
    simp only [List.mem_flatMap, List.mem_range]
    constructor
    · rintro ⟨n, hn, h⟩
      exact ⟨n, by omega, mem_comeR.2 (mem_comeC.1 h)⟩
    · rintro ⟨n, hn, h⟩
      by_cases e : n < K
      · exact ⟨n, e, mem_comeC.2 (mem_comeR.1 h)⟩
      · rw [h0 n (by omega) hn] at h
        obtain ⟨q, hq, _⟩ := mem_comeR.1 h
        cases hq
  rw [Bool.eq_iff_iff, cov_iff, cov_iff]
  simp only [key]
end Go.Proofs.YtjaahmgokiobjaaGreat
/- lists of timestamps, one of each operator, as an argument -/
namespace Go.Proofs.YtjaahmgokiobjaaGreat
open Go.ChangeShapes Go.WideShapes Go.ChangeAt Go.RowKit Go.Deep
set_option linter.unusedVariables false
set_option linter.unusedSimpArgs false

theorem sl_sizeT : Tryz.prog.cellsOf 33 = 1 := by kernel_rfl
theorem pts_of {w : World} : ∀ (svs : List SV), (∀ s ∈ svs, ∃ ts : List TV, RTi.Is w s.val ts) → ∃ pts : List (List TV), svs.length = pts.length ∧ ∀ m, m < pts.length → RTi.Is w svs[m]!.val pts[m]!
  | [], _ => ⟨[], rfl, fun i hi => absurd hi (by simp)⟩
  | s :: svs, h => by
    obtain ⟨ts, h1⟩ := h s List.mem_cons_self
    obtain ⟨pts, h3, h4⟩ := pts_of svs fun y hy => h y (List.mem_cons_of_mem _ hy)
    refine ⟨ts :: pts, by simp [h3], fun i hi => ?_⟩
    cases i with
    | zero => exact h1
    | succ i =>
      have hi : i < pts.length := by simpa using hi
      have := h4 i hi
      simpa using this
section
variable {H : Type} {enc : TypeId × Value → H} {w : World} {base : Nat} {sp : Nat → Bool} {held : Bool}
theorem open_time_cellsI (n : Nat) (cs : List Value) (x : DataW H × List MemPlace) (h : DataW.trod enc Tryz.prog w base sp held n 29 cs = some x) : ∃ t : TV, cs = RTi.enc t ∧ True := by
  obtain ⟨t, e⟩ := open_time_cells h
  exact ⟨t, e, trivial⟩
theorem open_times_cells (n : Nat) (cs : List Value) (x : DataW H × List MemPlace) (h : DataW.trod enc Tryz.prog w base sp held n 33 cs = some x) : ∃ s : SV, cs = RSt.enc s ∧ ∃ ts : List TV, RTi.Is w s.val ts := by
  obtain ⟨p, k, c, L, e, hI, _, _⟩ := open_rowsN RTi (fun _ => True) time_size open_time_cellsI h
  exact ⟨⟨p, k, c⟩, e, L, hI⟩
set_option maxRecDepth 100000 in
theorem open_pts {r : Reach} {b0 : Nat} {v : Value} {d : DataW H} {ps : List MemPlace} (hval : Value.okWide Tryz.prog w r b0 30 v) (hd : DataW.Trod enc Tryz.prog w base sp held 30 v d ps) : ∃ pts : List (List TV), IsPts w v pts := by
  obtain ⟨svs, h1, _, h3⟩ := open_rows RSt (fun s => ∃ ts : List TV, RTi.Is w s.val ts) sl_sizeT open_times_cells hval hd
  obtain ⟨pts, h4, h5⟩ := pts_of svs h3
  exact ⟨pts, svs, h1, h4, h5⟩
end
end Go.Proofs.YtjaahmgokiobjaaGreat
/- the program's steps and Reaches, of any two numbers -/
namespace Go.Proofs.YtjaahmgokiobjaaGreat
open Go.RowKit
set_option linter.unusedVariables false
set_option linter.unusedSimpArgs false

set_option maxRecDepth 100000 in
set_option maxHeartbeats 4000000 in
theorem psteps_no (bt N : Nat) (n m : Int) (w : World) (hN : N ≤ 900000) (h : ¬ ((0 ≤ n ∧ n < (N : Int)) ∧ 0 ≤ m ∧ m < (N : Int))) (hc : ∀ k : Nat, k < N → ∃ blk, w.cell? ⟨bt, k, none⟩ = some (.slice (some ⟨blk, 0, none⟩) N N)) :
    Calls Tryz.prog 17 #[.slice (some ⟨bt, 0, none⟩) N N, .int .i64 n, .int .i64 m] w (Ret (.slice none 0 0) w) := by
  by_cases h1 : 0 ≤ n
  · by_cases h2 : n < (N : Int)
    · obtain ⟨k, rfl⟩ : ∃ k : Nat, n = (k : Int) := ⟨n.toNat, by omega⟩
      obtain ⟨blk, h0⟩ := hc k (by omega)
      by_cases h3 : 0 ≤ m
      · have h4 : ¬ m < (N : Int) := by omega
        obtain ⟨j, rfl⟩ : ∃ j : Nat, m = (j : Int) := ⟨m.toNat, by omega⟩
        clear hc h
        go_enter Tryz.func17, Tryz.ntmps17
        go_wp2
        go_returns
        exact ⟨rfl, Below.refl _ _⟩
      · clear hc h
        go_enter Tryz.func17, Tryz.ntmps17
        go_wp2
        go_returns
        exact ⟨rfl, Below.refl _ _⟩
    · clear hc h
      go_enter Tryz.func17, Tryz.ntmps17
      go_wp2
      go_returns
      exact ⟨rfl, Below.refl _ _⟩
  · clear hc h
    go_enter Tryz.func17, Tryz.ntmps17
    go_wp2
    go_returns
    exact ⟨rfl, Below.refl _ _⟩
theorem tab_steps {w : World} {bt N : Nat} {rws : Nat → Nat → List HV} (T : TabW w bt N rws) (hN : N ≤ 900000) (n m : Int) :
    ∃ q l c, l = (stepsZ rws N n m).length ∧ RHp.Is w (.slice q l c) (stepsZ rws N n m) ∧ ∀ W, Below w.heap.size w W → Calls Tryz.prog 17 #[.slice (some ⟨bt, 0, none⟩) N N, .int .i64 n, .int .i64 m] W (Ret (.slice q l c) W) := by
  unfold stepsZ
  by_cases h : (0 ≤ n ∧ n < (N : Int)) ∧ 0 ≤ m ∧ m < (N : Int)
  · rw [if_pos h]
    obtain ⟨a, rfl⟩ : ∃ a : Nat, n = (a : Int) := ⟨n.toNat, by omega⟩
    obtain ⟨b, rfl⟩ : ∃ b : Nat, m = (b : Int) := ⟨m.toNat, by omega⟩
    obtain ⟨blk, h1, h2⟩ := T.row a (by omega)
    obtain ⟨q, l, c, h3, h4, h5⟩ := h2 b (by omega)
    exact ⟨q, l, c, h4, h5, fun W hW => psteps_any bt blk a b N q l c W (by omega) (by omega) hN ((hW.cell (p := ⟨bt, a, none⟩) (World.block_lt_of_cell? _ _ h1)).trans h1) ((hW.cell (p := ⟨blk, b, none⟩) (World.block_lt_of_cell? _ _ h3)).trans h3)⟩
  · rw [if_neg h]
    exact ⟨none, 0, 0, rfl, RowKind.Is.nil _, fun W hW => psteps_no bt N n m W hN h fun k hk => by
      obtain ⟨blk, h1, _⟩ := (T.below hW).row k hk
      exact ⟨blk, h1⟩⟩
section
attribute [local go_sem ↓] loadH loadT storeH storeT
attribute [local simp] size_setRow
attribute [local go_sem] rowAt_head rowOf_alloc_at rowOf_alloc_past rowOf_drew rowOf_drewN rowOf_setRow_same rowOf_setRow_other rowOf_setCell_same rowOf_setCell_other size_setRow setRow_drew setRow_alloc_at setRow_alloc_past one_int one_bool cell_setRow_same cell_setRow_other frozen_setRow_same frozen_setRow_other
attribute [local go_sem ↓] run_imin

set_option maxRecDepth 100000 in
set_option maxHeartbeats 8000000 in
theorem preach_u {w : World} {bt N : Nat} {rws : Nat → Nat → List HV} (T : TabW w bt N rws) (hN : N ≤ 900000) (n m : Int) (t u : TV) (hl : (stepsZ rws N n m).length ≤ 1500000000000) :
    Calls Tryz.prog 7 #[.slice (some ⟨bt, 0, none⟩) N N, .int .i64 n, t.val, .int .i64 m, u.val] w (Ret (.bool ((stepsZ rws N n m).any (comeB t u))) w) := by
  obtain ⟨q, l, c, hel, hx, hs⟩ := tab_steps T hN n m
  clear hel
  generalize stepsZ rws N n m = xs at *
  have HS := Lib.hid hs
  have HC : Hid (∀ W, Below w.heap.size w W → rowOf W w.heap.size = some (tvRow t) → rowOf W (w.heap.size + 1) = some (tvRow u) → Calls Tryz.prog 16 #[.slice q l c, .func (.func 18) #[] #[.pointer (some ⟨w.heap.size, 0, none⟩), .pointer (some ⟨w.heap.size + 1, 0, none⟩)]] W (Ret (.bool (xs.any (comeB t u))) W)) := fun W hW ht hu =>
    contains_any_r1 xs (comeB t u) _ _ _ W hl (hx.below hW) fun W' x hW' => reach1_any x t u _ _ W' (rowOf_below ht hW' (rowOf_lt ht)) (rowOf_below hu hW' (rowOf_lt hu))
  clear hs hx hl T
  generalize xs.any (comeB t u) = r at *
  go_enter Tryz.func7, Tryz.ntmps7
  go_wp2_with fail
  refine gen_c (fun W2 => Hid (Below w.heap.size w W2) ∧ Hid (rowOf W2 w.heap.size = some (tvRow t)) ∧ Hid (rowOf W2 (w.heap.size + 1) = some (tvRow u))) ⟨by rw [Hid]; go_grown, Lib.hid (row_old (row_new rfl)), Lib.hid (row_new (by simp))⟩ ?_
  rintro w2 ⟨HB2, HT2, HU2⟩
  refine (HS.out _ HB2.out).mono ?_
  rintro e w3 ⟨rfl, hb⟩
  have HB3 := Lib.hid (bstep HB2.out hb HB2.out.size)
  have HT3 := Lib.hid (rowOf_below HT2.out hb (rowOf_lt HT2.out))
  have HU3 := Lib.hid (rowOf_below HU2.out hb (rowOf_lt HU2.out))
  clear hb HB2 HT2 HU2 HS
  go_wp2_with fail
  refine (HC.out _ HB3.out HT3.out HU3.out).mono ?_
  rintro e w4 ⟨rfl, hb⟩
  have HB4 := Lib.hid (bstep HB3.out hb HB3.out.size)
  clear hb HC HB3 HT3 HU3
  go_wp2
  go_returns
  exact ⟨rfl, HB4.out⟩
end
end Go.Proofs.YtjaahmgokiobjaaGreat
