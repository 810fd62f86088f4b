/- the program's steps and Reaches -/
import Derived.Test.YtjaahmgokiobjaaGreatG39
import Derived.Test.YtjaahmgokiobjaaGreatG24
import Derived.Test.YtjaahmgokiobjaaGreatG25
namespace Go.Proofs.YtjaahmgokiobjaaGreat
open Go.RowKit
set_option linter.unusedVariables false
set_option linter.unusedSimpArgs false

/-- may it come by this step? -/
def comeB (t u : TV) (x : HV) : Bool := applyOk x t && leB (applyT x t).d (applyT x t).c0 (applyT x t).c1 (applyT x t).c2 (applyT x t).c3 u.d u.c0 u.c1 u.c2 u.c3
section
attribute [local go_sem ↓] loadH loadT storeH storeT
attribute [local simp] size_setRow
attribute [local go_sem] rowAt_head rowOf_alloc_at rowOf_alloc_past rowOf_drew rowOf_drewN rowOf_setRow_same rowOf_setRow_other rowOf_setCell_same rowOf_setCell_other size_setRow setRow_drew setRow_alloc_at setRow_alloc_past one_int one_bool cell_setRow_same cell_setRow_other frozen_setRow_same frozen_setRow_other
attribute [local go_sem ↓] run_imin

set_option maxRecDepth 100000 in
set_option maxHeartbeats 16000000 in
theorem reach1_any (x : HV) (t u : TV) (Bt Bu : Nat) (w : World) (ht : rowOf w Bt = some (tvRow t)) (hu : rowOf w Bu = some (tvRow u)) :
    Calls Tryz.prog 18 #[x.val, .pointer (some ⟨Bt, 0, none⟩), .pointer (some ⟨Bu, 0, none⟩)] w (Ret (.bool (comeB t u x)) w) := by
  have HA := Lib.hid (fun W => japply_any x t W)
  have HL := Lib.hid (fun W => le_any (applyT x t).d (applyT x t).c0 (applyT x t).c1 (applyT x t).c2 (applyT x t).c3 u.d u.c0 u.c1 u.c2 u.c3 W)
  unfold comeB
  generalize leB (applyT x t).d (applyT x t).c0 (applyT x t).c1 (applyT x t).c2 (applyT x t).c3 u.d u.c0 u.c1 u.c2 u.c3 = l at *
  generalize applyT x t = y at *
  generalize applyOk x t = ok at *
  have N_t := ht
  have L_t := rowOf_lt N_t
  have D_t := Nat.ne_of_lt L_t
  have HU := Lib.hid hu
  clear ht hu
  go_enter Tryz.func18, Tryz.ntmps18
  go_wp2_with fail
  refine (HA.out _).mono ?_
  rintro e w1 ⟨rfl, hb1⟩
  have hBx := bcall (B := w.heap.size) (a := w) (by go_grown) hb1 (by go_size)
  have HB := Lib.hid hBx
  have N_u := rowOf_below HU.out hBx (rowOf_lt HU.out)
  have L_u := rowOf_lt N_u
  have D_u := Nat.ne_of_lt L_u
  have hne : Bu < w.heap.size := rowOf_lt HU.out
  clear hb1 hBx HA N_t L_t D_t HU
  cases ok
  · go_wp2
    go_returns
    exact ⟨by simp, by first | exact HB.out.alloc HB.out.size _ | go_grown⟩
  · go_wp2_with fail
    refine (HL.out _).mono ?_
    rintro e w2 ⟨rfl, hb2⟩
    have HB2 := Lib.hid (bstep (HB.out.alloc HB.out.size _) hb2 (HB.out.alloc HB.out.size _).size)
    clear hb2 HL N_u L_u D_u
    go_wp2
    go_returns
    exact ⟨by simp, HB2.out⟩
end
section
attribute [local go_sem ↓] loadHs
attribute [local go_sem] HV.enc

set_option maxRecDepth 100000 in
set_option maxHeartbeats 8000000 in
theorem index_row_r1 (xs : List HV) (f : HV → Bool) (c1 : Value) (c2 : Value) (b off cap : Nat) (w : World) (hl : xs.length ≤ 1500000000000) (hb : b < w.heap.size) (hr : RHp.Row w b off xs)
    (hcl : ∀ W x, Below w.heap.size w W → Calls Tryz.prog 18 #[HV.val x, c1, c2] W (Ret (.bool (f x)) W)) :
    Calls Tryz.prog 39 #[.slice (some ⟨b, off, none⟩) xs.length cap, .func (.func 18) #[] #[c1, c2]] w (IdxP xs f w) := by
  have HE : Hid (∀ W, Below w.heap.size w W → ∀ j, j < xs.length → elemL W ⟨b, off + j * 11, none⟩ 0 11 = some (HV.enc xs[j]!)) := fun W hW j hj => hop_elem hr hb hW j hj
  have HC := Lib.hid hcl
  clear hr hcl
  generalize hn : xs.length = n at *
  have HN := Lib.hid hn
  clear hn
  go_enter Tryz.func39, Tryz.ntmps39
  go_wp2
  go_loopg [8] n (fun gg i wr => ∃ k : Nat, k ≤ n ∧ n - k ≤ gg ∧ i = .int .i64 (k : Int) ∧ Hid (Below w.heap.size w wr) ∧ Hid (∀ j, j < k → f xs[j]! = false))
  case atStart => exact ⟨0, Nat.zero_le _, by omega, rfl, Below.refl _ _, fun j hj => by omega⟩
  case round =>
    obtain ⟨k, hkn, hg, rfl, HB, HM⟩ := hrel
    by_cases hlt : k < n
    · have hlz : (k : Int) < (n : Int) := by omega
      have E1 := HE.out wr HB.out k hlt
      have HK := Lib.hid (HC.out wr xs[k]! HB.out)
      generalize hy : xs[k]! = y at *
      have HY := Lib.hid hy
      clear hy HE HC
      cases hq : f y
      · rw [hq] at HK
        have HQ := Lib.hid hq
        clear hq
        go_wp2_with fail
        refine (HK.out).mono ?_
        rintro e w1 ⟨rfl, hb1⟩
        have HB1 := Lib.hid (HB.out.trans (hb1.mono HB.out.size))
        clear hb1 E1
        go_wp2
        go_roundg (n - (k + 1))
        case measure => omega
        case rel =>
          refine ⟨k + 1, by omega, by omega, by go_num, HB1.out, fun j hj => ?_⟩
          by_cases e : j < k
          · exact HM.out j e
          · obtain rfl : j = k := by omega
            rw [HY.out]; exact HQ.out
      · rw [hq] at HK
        have HQ := Lib.hid hq
        clear hq
        go_wp2_with fail
        refine (HK.out).mono ?_
        rintro e w1 ⟨rfl, hb1⟩
        have HB1 := Lib.hid (HB.out.trans (hb1.mono HB.out.size))
        clear hb1 E1
        go_wp2
        go_returns
        exact ⟨_, rfl, .inr ⟨k, by rw [HN.out]; exact hlt, rfl, by rw [HY.out]; exact HQ.out, HM.out⟩, HB1.out⟩
    · have hlz : ¬ (k : Int) < (n : Int) := by omega
      obtain rfl : k = n := by omega
      clear HE HC
      go_wp2
      go_returns
      exact ⟨_, rfl, .inl ⟨rfl, fun x hx => by
        obtain ⟨j, hj, e⟩ := List.getElem_of_mem hx
        have := HM.out j (by rw [← HN.out]; exact hj)
        rw [getElem!_pos xs j hj, e] at this
        exact this⟩, HB.out⟩
set_option maxHeartbeats 2000000 in
theorem index_nil_r1 (f : HV → Bool) (c1 : Value) (c2 : Value) (p : Option Addr) (cap : Nat) (w : World) :
    Calls Tryz.prog 39 #[.slice p 0 cap, .func (.func 18) #[] #[c1, c2]] w (IdxP [] f w) := by
  go_enter Tryz.func39, Tryz.ntmps39
  go_wp2
  refine wp_loop_rounds 1 ?_
  rw [rounds_succ]
  go_wp2
  go_returns
  exact ⟨_, rfl, .inl ⟨rfl, fun x hx => by simp at hx⟩, Below.refl _ _⟩
theorem index_any_r1 (xs : List HV) (f : HV → Bool) (c1 : Value) (c2 : Value) (v : Value) (w : World) (hl : xs.length ≤ 1500000000000) (hv : RHp.Is w v xs)
    (hcl : ∀ W x, Below w.heap.size w W → Calls Tryz.prog 18 #[HV.val x, c1, c2] W (Ret (.bool (f x)) W)) :
    Calls Tryz.prog 39 #[v, .func (.func 18) #[] #[c1, c2]] w (IdxP xs f w) := by
  rcases hv with ⟨rfl, p, cap, rfl, _⟩ | ⟨_, b, off, cap, rfl, hb, hr⟩
  · exact index_nil_r1 f c1 c2 p cap w
  · exact index_row_r1 xs f c1 c2 b off cap w hl hb hr hcl
set_option maxHeartbeats 2000000 in
theorem contains_any_r1 (xs : List HV) (f : HV → Bool) (c1 : Value) (c2 : Value) (v : Value) (w : World) (hl : xs.length ≤ 1500000000000) (hv : RHp.Is w v xs)
    (hcl : ∀ W x, Below w.heap.size w W → Calls Tryz.prog 18 #[HV.val x, c1, c2] W (Ret (.bool (f x)) W)) :
    Calls Tryz.prog 16 #[v, .func (.func 18) #[] #[c1, c2]] w (Ret (.bool (xs.any f)) w) := by
  have HI := Lib.hid (index_any_r1 xs f c1 c2 v w hl hv hcl)
  obtain ⟨p, c, rfl⟩ := hv.slice
  clear hv hcl
  have hres : ∀ r : Int, ((r = -1 ∧ ∀ x ∈ xs, f x = false) ∨ (∃ k : Nat, k < xs.length ∧ r = k ∧ f xs[k]! = true ∧ ∀ j, j < k → f xs[j]! = false)) → decide (0 ≤ r) = xs.any f := fun r h => by
    rcases h with ⟨rfl, h⟩ | ⟨k, hk, rfl, h, _⟩
    · have : xs.any f = false := by
        cases q : xs.any f
        · rfl
        · obtain ⟨x, hx, hq⟩ := List.any_eq_true.1 q
          rw [h x hx] at hq
          cases hq
      rw [this]
      rfl
    · rw [decide_eq_true (by omega)]
      exact (List.any_eq_true.2 ⟨xs[k]!, by rw [getElem!_pos xs k hk]; exact List.getElem_mem _, h⟩).symm
  have HRes := Lib.hid hres
  clear hres
  generalize hn : xs.length = n at HI ⊢
  clear hn
  go_enter Tryz.func16, Tryz.ntmps16
  go_wp2_with fail
  refine (HI.out).mono ?_
  rintro e w1 ⟨r, rfl, hr, hb1⟩
  have HR := Lib.hid (HRes.out r (by assumption))
  clear hr HI HRes
  go_wp2
  go_returns
  exact ⟨ret_bool HR.out, hb1⟩
end
set_option maxRecDepth 100000 in
set_option maxHeartbeats 4000000 in
theorem psteps_any (bt blk n m N : Nat) (q : Option Addr) (l c : Nat) (w : World) (hn : n < N) (hm : m < N) (hN : N ≤ 900000) (h1 : w.cell? ⟨bt, n, none⟩ = some (.slice (some ⟨blk, 0, none⟩) N N)) (h2 : w.cell? ⟨blk, m, none⟩ = some (.slice q l c)) :
    Calls Tryz.prog 17 #[.slice (some ⟨bt, 0, none⟩) N N, .int .i64 (n : Int), .int .i64 (m : Int)] w (Ret (.slice q l c) w) := by
  have a1 : (n : Int) < (N : Int) := by omega
  have a2 : (m : Int) < (N : Int) := by omega
  go_enter Tryz.func17, Tryz.ntmps17
  go_wp2
  go_returns
  exact ⟨rfl, Below.refl _ _⟩
section
attribute [local go_sem ↓] loadH loadT storeH storeT
attribute [local simp] size_setRow
attribute [local go_sem] rowAt_head rowOf_alloc_at rowOf_alloc_past rowOf_drew rowOf_drewN rowOf_setRow_same rowOf_setRow_other rowOf_setCell_same rowOf_setCell_other size_setRow setRow_drew setRow_alloc_at setRow_alloc_past one_int one_bool cell_setRow_same cell_setRow_other frozen_setRow_same frozen_setRow_other
attribute [local go_sem ↓] run_imin

set_option maxRecDepth 100000 in
set_option maxHeartbeats 8000000 in
theorem preach_any (bt blk n m N : Nat) (q : Option Addr) (l c : Nat) (xs : List HV) (t u : TV) (w : World) (hn : n < N) (hm : m < N) (hN : N ≤ 900000) (h1 : w.cell? ⟨bt, n, none⟩ = some (.slice (some ⟨blk, 0, none⟩) N N)) (h2 : w.cell? ⟨blk, m, none⟩ = some (.slice q l c))
    (hx : RHp.Is w (.slice q l c) xs) (hl : xs.length ≤ 1500000000000) :
    Calls Tryz.prog 7 #[.slice (some ⟨bt, 0, none⟩) N N, .int .i64 (n : Int), t.val, .int .i64 (m : Int), u.val] w (Ret (.bool (xs.any (comeB t u))) w) := by
  have b1 : bt < w.heap.size := World.block_lt_of_cell? _ _ h1
  have b2 : blk < w.heap.size := World.block_lt_of_cell? _ _ h2
  have HS : Hid (∀ W, Below w.heap.size w W → Calls Tryz.prog 17 #[.slice (some ⟨bt, 0, none⟩) N N, .int .i64 (n : Int), .int .i64 (m : Int)] W (Ret (.slice q l c) W)) := fun W hW => psteps_any bt blk n m N q l c W hn hm hN ((hW.cell (p := ⟨bt, n, none⟩) b1).trans h1) ((hW.cell (p := ⟨blk, m, none⟩) b2).trans h2)
  have HC : Hid (∀ W, Below w.heap.size w W → rowOf W w.heap.size = some (tvRow t) → rowOf W (w.heap.size + 1) = some (tvRow u) → Calls Tryz.prog 16 #[.slice q l c, .func (.func 18) #[] #[.pointer (some ⟨w.heap.size, 0, none⟩), .pointer (some ⟨w.heap.size + 1, 0, none⟩)]] W (Ret (.bool (xs.any (comeB t u))) W)) := fun W hW ht hu =>
    contains_any_r1 xs (comeB t u) _ _ _ W hl (hx.below hW) fun W' x hW' => reach1_any x t u _ _ W' (rowOf_below ht hW' (rowOf_lt ht)) (rowOf_below hu hW' (rowOf_lt hu))
  clear h1 h2 hx hl b1 b2
  generalize xs.any (comeB t u) = r at *
  go_enter Tryz.func7, Tryz.ntmps7
  go_wp2_with fail
  refine gen_c (fun W2 => Hid (Below w.heap.size w W2) ∧ Hid (rowOf W2 w.heap.size = some (tvRow t)) ∧ Hid (rowOf W2 (w.heap.size + 1) = some (tvRow u))) ⟨by rw [Hid]; go_grown, Lib.hid (row_old (row_new rfl)), Lib.hid (row_new (by simp))⟩ ?_
  rintro w2 ⟨HB2, HT2, HU2⟩
  refine (HS.out _ HB2.out).mono ?_
  rintro e w3 ⟨rfl, hb⟩
  have HB3 := Lib.hid (bstep HB2.out hb HB2.out.size)
  have HT3 := Lib.hid (rowOf_below HT2.out hb (rowOf_lt HT2.out))
  have HU3 := Lib.hid (rowOf_below HU2.out hb (rowOf_lt HU2.out))
  clear hb HB2 HT2 HU2 HS
  go_wp2_with fail
  refine (HC.out _ HB3.out HT3.out HU3.out).mono ?_
  rintro e w4 ⟨rfl, hb⟩
  have HB4 := Lib.hid (bstep HB3.out hb HB3.out.size)
  clear hb HC HB3 HT3 HU3
  go_wp2
  go_returns
  exact ⟨rfl, HB4.out⟩
end
end Go.Proofs.YtjaahmgokiobjaaGreat
/- the program's Table and Reaches, of any graph; runs -/
namespace Go.Proofs.YtjaahmgokiobjaaGreat
open Go.RowKit
set_option linter.unusedVariables false
set_option linter.unusedSimpArgs false

/-- the lowest steps of all ways of a graph, in whatever order -/
def LowG (g : GV) (low : Nat → List (List HV)) : Prop := ∀ n, n < g.nodes.length → (low n).length = g.nodes.length ∧ ∀ m, m < g.nodes.length → LeastOf (Way (netE g) n (sameG g n) m) (low n)[m]! ∧ List.length (low n)[m]! ≤ 460000000000
theorem low_run {g : GV} (r : runG g) : ∃ low, LowG g low ∧ ∀ (n : Nat) v w, n < g.nodes.length → IsG w v g → Calls Tryz.prog 15 #[v, .int .i64 (n : Int)] w (PRowR (low n) w) := by
  have M := runG_may r
  have R := M.runs
  have T := runS_tree r.1
  have each : ∀ n : Nat, ∃ K : Nat, n < g.nodes.length → K ≤ 460000000000 ∧ (∀ q, q < K → q < (biter (netE g) (bstart n g.nodes.length (sameG g n)) q).ws.length) ∧ (biter (netE g) (bstart n g.nodes.length (sameG g n)) K).ws.length = K ∧
      ∀ m, m < g.nodes.length → LeastOf (Way (netE g) n (sameG g n) m) ((biter (netE g) (bstart n g.nodes.length (sameG g n)) K).low)[m]! := fun n => by
    by_cases hn : n < g.nodes.length
    · obtain ⟨K, h1, h2, h3, h4⟩ := bdone R.fine hn (sameG_right R hn) (sameG_gives g n) R.nodes (by unfold netE; rw [List.length_map]; exact R.edges) (sameG_zero g n)
      exact ⟨K, fun _ => ⟨h1, h2, h3, h4⟩⟩
    · exact ⟨0, fun h => absurd h hn⟩
  refine ⟨fun n => (biter (netE g) (bstart n g.nodes.length (sameG g n)) (each n).choose).low, fun n hn => ⟨?_, fun m hm => ⟨((each n).choose_spec hn).2.2.2 m hm, ?_⟩⟩, fun n v w hn h => ?_⟩
  · rw [biter_low]; exact List.length_replicate
  · exact Nat.le_trans (biter_few _ _ _ _ _ _) ((each n).choose_spec hn).1
  · exact prow_any g v n w h M T hn _ ((each n).choose_spec hn).1 ((each n).choose_spec hn).2.1 ((each n).choose_spec hn).2.2.1
theorem ptable_run {g : GV} {low : Nat → List (List HV)} (r : runG g) (L : LowG g low) (hr : ∀ (n : Nat) v w, n < g.nodes.length → IsG w v g → Calls Tryz.prog 15 #[v, .int .i64 (n : Int)] w (PRowR (low n) w))
    (v : Value) (w : World) (h : IsG w v g) (hcap : capsG v) (S : SmallG g) : Calls Tryz.prog 6 #[v] w (PTabR low g.nodes.length w) :=
  ptable_any g v w h S.n low (fun n hn => (L n hn).1) (fun W hW => (pcheck_any g v W (h.below hW) hcap S).mono fun e w' q => by
    obtain ⟨a, b, rfl, ha, hb⟩ := q
    exact ⟨⟨b, by rw [ha.2 r]⟩, hb⟩) fun n hn W hW => hr n v W hn (h.below hW)
/-- of a graph that may not run there is no table -/
theorem ptable_no {g : GV} (r : ¬ runG g) (v : Value) (w : World) (h : IsG w v g) (hcap : capsG v) (S : SmallG g) : Calls Tryz.prog 6 #[v] w (Ret (.slice none 0 0) w) := by
  have HC : Hid (∀ W, Below w.heap.size w W → Calls Tryz.prog 14 #[v] W (RetChk (runG g) W)) := fun W hW => pcheck_any g v W (h.below hW) hcap S
  obtain ⟨p1, c1, p2, c2, p3, c3, p4, c4, rfl, G⟩ := h.go
  clear h G hcap S
  have HR := Lib.hid r
  clear r
  generalize runG g = R at *
  generalize g.parent.length = n1 at *
  generalize g.bound.length = n2 at *
  generalize g.nodes.length = n3 at *
  generalize g.edges.length = n4 at *
  go_enter Tryz.func6, Tryz.ntmps6
  go_wp2_with fail
  refine gen_c (fun W2 => Hid (Below w.heap.size w W2)) (Lib.hid ((Below.refl _ _).alloc (Nat.le_refl _) _)) ?_
  intro w2 HB2
  refine (HC.out _ HB2.out).mono ?_
  rintro e w3 ⟨a, b, rfl, hok, hb⟩
  have HB3 := Lib.hid (bstep HB2.out hb HB2.out.size)
  have ha : ¬ a = 0 := fun e => HR.out (hok.1 e)
  have ab : (a != 0) = true := by simpa using ha
  clear hok hb ha HC HR
  go_wp2
  go_returns
  exact ⟨rfl, HB3.out⟩
theorem any_comes {l m : List HV} (h : List.Perm l m) (t u : TV) : l.any (comeB t u) = true ↔ comes m t u := by
  rw [List.any_eq_true]
  constructor
  · rintro ⟨x, hx, hc⟩
    unfold comeB at hc
    rw [Bool.and_eq_true] at hc
    exact ⟨x, h.mem_iff.1 hx, hc.1, hc.2⟩
  · rintro ⟨x, hx, h1, h2⟩
    refine ⟨x, h.mem_iff.2 hx, ?_⟩
    unfold comeB
    rw [Bool.and_eq_true]
    exact ⟨h1, h2⟩
/-- Reaches, of a table that is laid -/
theorem preach_tab {g : GV} {low : Nat → List (List HV)} (L : LowG g low) (hN : g.nodes.length ≤ 900000) (n m : Nat) (hn : n < g.nodes.length) (hm : m < g.nodes.length) (t u : TV) :
    ∃ b : Bool, (b = true ↔ comes (low n)[m]! t u) ∧ ∀ W bt tl, TabS low g.nodes.length W bt tl g.nodes.length →
      Calls Tryz.prog 7 #[.slice (some ⟨bt, 0, none⟩) g.nodes.length g.nodes.length, .int .i64 (n : Int), t.val, .int .i64 (m : Int), u.val] W (Ret (.bool b) W) := by
  refine ⟨(low n)[m]!.any (comeB t u), any_comes (List.Perm.refl _) t u, fun W bt tl h => ?_⟩
  obtain ⟨blk, svs, rows, e, o, hrl, hp⟩ := h.row n hn
  have hc := h.cell n hn
  rw [e] at hc
  have hms : m < svs.length := by rw [o.len, hrl]; exact hm
  have hc2 := o.cell m hms
  have hi := (o.own m hms).is
  have hpm := hp m hm
  have hle : rows[m]!.length ≤ 1500000000000 := by rw [hpm.length_eq]; exact Nat.le_trans ((L n hn).2 m hm).2 (by decide)
  have hb : (low n)[m]!.any (comeB t u) = rows[m]!.any (comeB t u) := by
    rw [Bool.eq_iff_iff, any_comes (List.Perm.refl _), any_comes hpm]
  rw [hb]
  exact preach_any bt blk n m g.nodes.length svs[m]!.p svs[m]!.n svs[m]!.c rows[m]! t u W hn hm hN hc hc2 hi hle
theorem short_small {g : GV} (h : shortG g = true) : SmallG g := by
  have q := (shortG_iff g).1 h
  refine ⟨by omega, by omega, by omega, by omega, fun j hj => ?_⟩
  have := q.2.2.2.2 g.nodes[j]! (by rw [getElem!_pos g.nodes j hj]; exact List.getElem_mem hj)
  omega
set_option maxRecDepth 100000 in
set_option maxHeartbeats 8000000 in
theorem runs_any (g : GV) : ∃ b : Bool, (b = true ↔ shortG g = true ∧ runG g) ∧ ∀ v w, IsG w v g → Calls Tryz.prog 5 #[v] w (Ret (.bool b) w) := by
  by_cases hs : shortG g = true
  · have S := short_small hs
    obtain ⟨b, hb⟩ : ∃ b : Bool, (b = true ↔ runG g) := ⟨@decide (runG g) (Classical.propDecidable _), fun h => @of_decide_eq_true _ (Classical.propDecidable _) h, fun h => @decide_eq_true _ (Classical.propDecidable _) h⟩
    refine ⟨b, by rw [hb]; exact ⟨fun h => ⟨hs, h⟩, fun h => h.2⟩, fun v w h => ?_⟩
    have H1 : Hid (∀ W, Below w.heap.size w W → Calls Tryz.prog 12 #[v] W (Ret (.bool true) W)) := fun W hW => by
      have := rshort_any g v W (h.below hW)
      rw [hs] at this
      exact this
    have H2 : Hid (∀ W, Below w.heap.size w W → Calls Tryz.prog 13 #[v] W (RetChk (runG g) W)) := fun W hW => rcheck_any g v W (h.below hW) S
    obtain ⟨p1, c1, p2, c2, p3, c3, p4, c4, rfl, G⟩ := h.go
    have HE := Lib.hid hb
    clear h G S hs hb
    generalize runG g = R at *
    generalize g.parent.length = n1 at *
    generalize g.bound.length = n2 at *
    generalize g.nodes.length = n3 at *
    generalize g.edges.length = n4 at *
    go_enter Tryz.func5, Tryz.ntmps5
    go_wp2_with fail
    refine gen_c (fun W2 => Hid (Below w.heap.size w W2) ∧ Hid (rowOf W2 w.heap.size = some #[.slice p1 n1 c1, .slice p2 n2 c2, .slice p3 n3 c3, .slice p4 n4 c4])) ⟨Lib.hid ((Below.refl _ _).alloc (Nat.le_refl _) _), Lib.hid (row_new rfl)⟩ ?_
    rintro w2 ⟨HB2, HX2⟩
    refine (H1.out _ HB2.out).mono ?_
    rintro e w3 ⟨rfl, hb⟩
    have HB3 := Lib.hid (bstep HB2.out hb HB2.out.size)
    have HX3 := Lib.hid (rowOf_below HX2.out hb (rowOf_lt HX2.out))
    clear hb
    have g_0 := (rowOf_cell HX3.out 0 : _ = some (Value.slice p1 n1 c1))
    have g_1 := (rowOf_cell HX3.out 1 : _ = some (Value.slice p2 n2 c2))
    have g_2 := (rowOf_cell HX3.out 2 : _ = some (Value.slice p3 n3 c3))
    have g_3 := (rowOf_cell HX3.out 3 : _ = some (Value.slice p4 n4 c4))
    go_wp2_with fail
    refine (H2.out _ HB3.out).mono ?_
    rintro e w4 ⟨a, x, rfl, hok, hb⟩
    have HB4 := Lib.hid (bstep HB3.out hb HB3.out.size)
    have hv : b = decide (a = 0) := by
      rw [Bool.eq_iff_iff, HE.out, decide_eq_true_eq]
      exact hok.symm
    subst hv
    clear hok hb g_0 g_1 g_2 g_3 H1 H2 HE
    go_wp2
    go_returns
    exact ⟨by first | rfl | (simp; rfl), HB4.out⟩
  · refine ⟨false, by simp [hs], fun v w h => ?_⟩
    have H1 : Hid (∀ W, Below w.heap.size w W → Calls Tryz.prog 12 #[v] W (Ret (.bool false) W)) := fun W hW => by
      have := rshort_any g v W (h.below hW)
      rw [Bool.eq_false_iff.2 hs] at this
      exact this
    obtain ⟨p1, c1, p2, c2, p3, c3, p4, c4, rfl, G⟩ := h.go
    clear h G hs
    generalize g.parent.length = n1 at *
    generalize g.bound.length = n2 at *
    generalize g.nodes.length = n3 at *
    generalize g.edges.length = n4 at *
    go_enter Tryz.func5, Tryz.ntmps5
    go_wp2_with fail
    refine gen_c (fun W2 => Hid (Below w.heap.size w W2)) (Lib.hid ((Below.refl _ _).alloc (Nat.le_refl _) _)) ?_
    intro w2 HB2
    refine (H1.out _ HB2.out).mono ?_
    rintro e w3 ⟨rfl, hb⟩
    have HB3 := Lib.hid (bstep HB2.out hb HB2.out.size)
    clear hb H1
    go_wp2
    go_returns
    exact ⟨rfl, HB3.out⟩
end Go.Proofs.YtjaahmgokiobjaaGreat
