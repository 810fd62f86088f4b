/- plain: the document's Check as a function; where it finds nothing, ways have what they ask for -/
import Derived.Test.YtjaahmgokiobjaaGreatG12
import Derived.Test.YtjaahmgokiobjaaGreatG13
import Derived.Test.YtjaahmgokiobjaaGreatG05
namespace Go.Proofs.YtjaahmgokiobjaaGreat
open Go.RowKit
set_option linter.unusedVariables false
set_option linter.unusedSimpArgs false

def scopeE (g : GV) (s : Nat) : Int :=
  if (s = 0 ∧ g.parent[s]! = -1 ∧ g.bound[s]! = 0) ∨ (0 < s ∧ 0 ≤ g.parent[s]! ∧ g.parent[s]! < (s : Int) ∧ 1 ≤ g.bound[s]! ∧ g.bound[s]! ≤ 64 ∧ (chainL g.parent 10 (s : Int)).length ≤ 4) then 0 else 6
def edgeV (src dst port : Int) (ex : Bool) (n3 : Nat) (ks kd ps pd pk : Int) (tk : Bool) : Int :=
  if src < 0 ∨ (n3 : Int) ≤ src ∨ dst < 0 ∨ (n3 : Int) ≤ dst ∨ ks = 15 ∨ port < 0 ∨ pk ≤ port then 7
  else if ps ≠ pd then 6 else if ks ≠ 12 ∧ dst ≤ src then 8
  else if ex = false ∧ (kd = 6 ∨ kd = 7 ∨ kd = 8 ∨ kd = 9 ∨ kd = 14) then 1 else if tk = true then 7 else 0
/-- is the port taken by an edge ahead? -/
def takenG (g : GV) (i : Nat) : Bool := (List.range i).any (fun j => decide (g.edges[j]!.dst = g.edges[i]!.dst) && decide (g.edges[j]!.port = g.edges[i]!.port))
def edgeE (g : GV) (i : Nat) : Int := edgeV g.edges[i]!.src g.edges[i]!.dst g.edges[i]!.port g.edges[i]!.ex g.nodes.length g.nodes[g.edges[i]!.src.toNat]!.kind g.nodes[g.edges[i]!.dst.toNat]!.kind
  (placeG g g.edges[i]!.src.toNat true) (placeG g g.edges[i]!.dst.toNat false) (portsG g.nodes[g.edges[i]!.dst.toNat]!.kind) (takenG g i)
def openE (g : GV) (n : Nat) : Int := if (((List.range g.edges.length).countP fun i => decide (g.edges[i]!.dst = (n : Int)) : Nat) : Int) < portsG g.nodes[n]!.kind then 7 else 0
/-- the first of n numbers that isn't 0, and where -/
def firstE (f : Nat → Int) (n : Nat) : Option (Int × Int) := ((List.range n).find? fun i => decide (f i ≠ 0)).map fun i => (f i, (i : Int))
theorem firstE_none {f : Nat → Int} {n : Nat} (h : firstE f n = none) : ∀ i, i < n → f i = 0 := fun i hi => by
  unfold firstE at h
  rw [Option.map_eq_none_iff, List.find?_eq_none] at h
  have := h i (List.mem_range.2 hi)
  simpa using this
theorem firstE_some {f : Nat → Int} {n : Nat} {p : Int × Int} (h : firstE f n = some p) : p.1 ≠ 0 := by
  unfold firstE at h
  rw [Option.map_eq_some_iff] at h
  obtain ⟨i, hi, rfl⟩ := h
  have := List.find?_some hi
  simpa using this
/-- what Check finds, and where -/
def checkG (g : GV) : Int × Int :=
  if g.parent.length = 0 ∨ 8 < g.parent.length ∨ g.parent.length ≠ g.bound.length then (6, 0)
  else match firstE (scopeE g) g.parent.length with
  | some p => p
  | none => if g.nodes.length = 0 ∨ 32 < g.nodes.length ∨ 64 < g.edges.length then (11, 0)
    else match firstE (nodeE g) g.nodes.length with
    | some p => p
    | none => match firstE (edgeE g) g.edges.length with
      | some p => p
      | none => match firstE (openE g) g.nodes.length with
        | some p => p
        | none => (0, 0)
theorem checkG_may {g : GV} (h : (checkG g).1 = 0) : May g := by
  unfold checkG at h
  split at h
  · simp at h
  rename_i h1
  cases hs : firstE (scopeE g) g.parent.length with
  | some p => rw [hs] at h; exact absurd h (firstE_some hs)
  | none =>
  rw [hs] at h
  simp only at h
  split at h
  · simp at h
  rename_i h2
  cases hn : firstE (nodeE g) g.nodes.length with
  | some p => rw [hn] at h; exact absurd h (firstE_some hn)
  | none =>
  rw [hn] at h
  simp only at h
  cases he : firstE (edgeE g) g.edges.length with
  | some p => rw [he] at h; exact absurd h (firstE_some he)
  | none =>
  have S := firstE_none hs
  have Nn := firstE_none hn
  have Ee := firstE_none he
  have sc : ∀ s : Nat, s < g.parent.length → (s = 0 ∧ g.parent[s]! = -1) ∨ (0 < s ∧ 0 ≤ g.parent[s]! ∧ g.parent[s]! < (s : Int) ∧ (chainL g.parent 10 (s : Int)).length ≤ 4) := fun s hs => by
    have q := S s hs
    unfold scopeE at q
    split at q
    · rename_i c
      rcases c with c | c
      · exact .inl ⟨c.1, c.2.1⟩
      · exact .inr ⟨c.1, c.2.1, c.2.2.1, c.2.2.2.2.2⟩
    · simp at q
  have nd : ∀ v, v < g.nodes.length → scopeOk g v ∧ ((g.nodes[v]!.kind = 10 ∨ g.nodes[v]!.kind = 11 ∨ g.nodes[v]!.kind = 12) → g.nodes[v]!.scope ≠ 0) := fun v hv => by
    have q := Nn v hv
    unfold nodeE nodeV at q
    split at q
    · simp at q
    split at q
    · simp at q
    split at q
    · simp at q
    rename_i a b c
    exact ⟨by unfold scopeOk; omega, fun hk e => c (.inl (by omega))⟩
  have ed : ∀ i, i < g.edges.length → (0 ≤ g.edges[i]!.src ∧ g.edges[i]!.src < (g.nodes.length : Int) ∧ 0 ≤ g.edges[i]!.dst ∧ g.edges[i]!.dst < (g.nodes.length : Int)) ∧ placeG g g.edges[i]!.src.toNat true = placeG g g.edges[i]!.dst.toNat false := fun i hi => by
    have q := Ee i hi
    unfold edgeE edgeV at q
    split at q
    · simp at q
    split at q
    · simp at q
    rename_i a b
    refine ⟨by omega, ?_⟩
    exact Classical.not_not.1 b
  have c0 : (chainL g.parent 10 0).length ≤ 4 := by
    have q := sc 0 (by omega)
    have hp : g.parent[0]! = -1 := by
      rcases q with q | q
      · exact q.2
      · exact absurd q.1 (by omega)
    have e : chainL g.parent 10 0 = chainL g.parent 9 g.parent[0]! ++ [0] := by
      show (if _ then _ else _) = _
      rw [if_pos ⟨by omega, by omega⟩]
      rfl
    rw [e, hp]
    have : chainL g.parent 9 (-1) = [] := by
      show (if _ then _ else _) = _
      rw [if_neg (by omega)]
    rw [this]
    simp
  refine ⟨by omega, fun s h0 h1 => ?_, fun s h0 h1 => ?_, by omega, by omega, fun v hv => (nd v hv).1, fun v hv => (nd v hv).2, fun i hi => ?_, fun i hi => (ed i hi).2⟩
  · obtain ⟨k, rfl⟩ : ∃ k : Nat, s = (k : Int) := ⟨s.toNat, by omega⟩
    rcases sc k (by omega) with q | q
    · rw [q.1]; exact c0
    · exact q.2.2.2
  · obtain ⟨k, rfl⟩ : ∃ k : Nat, s = (k : Int) := ⟨s.toNat, by omega⟩
    rcases sc k (by omega) with q | q
    · omega
    · rw [Int.toNat_natCast]; omega
  · have := (ed i hi).1
    omega
end Go.Proofs.YtjaahmgokiobjaaGreat
/- the program's own rightOne and Right -/
namespace Go.Proofs.YtjaahmgokiobjaaGreat
open Go.RowKit
set_option linter.unusedVariables false
set_option linter.unusedSimpArgs false

theorem retB {a : Bool} {b : Bool} (h : a = b) : Ending.returned (.bool a) = .returned (.bool b) := by rw [h]
set_option maxRecDepth 100000 in
set_option maxHeartbeats 8000000 in
theorem prightOne_any (op n : Int) (len : Nat) (w : World) : Calls Tryz.prog 120 #[.agg #[.int .i64 op, .int .i64 n], .int .i64 (len : Int)] w (Ret (.bool (decide (NV.ok len ⟨op, n⟩))) w) := by
  have HB := Lib.hid ((Below.refl w.heap.size w).alloc (Nat.le_refl _) (.cells #[.int .i64 op, .int .i64 n] 112))
  by_cases h1 : op = 1
  · subst h1
    rw [decide_eq_true (show NV.ok len ⟨1, n⟩ by unfold NV.ok; simp only; omega)]
    go_enter Tryz.func120, Tryz.ntmps120
    go_wp2
    all_goals go_returns
    all_goals exact ⟨rfl, HB.out⟩
  have e1 : (op == 1) = false := by simpa using h1
  by_cases hj : op = 14 ∨ op = 15
  · have hv : decide (NV.ok len ⟨op, n⟩) = (decide (0 ≤ n) && decide (n ≤ (len : Int))) := by
      rw [Bool.eq_iff_iff, Bool.and_eq_true, decide_eq_true_eq, decide_eq_true_eq, decide_eq_true_eq]
      unfold NV.ok
      simp only
      omega
    rw [hv]
    clear hv h1
    have hop : op = 14 ∨ op = 15 := hj
    clear hj
    rcases hop with rfl | rfl
    all_goals
      by_cases z0 : 0 ≤ n
      · by_cases z1 : n ≤ (len : Int)
        · rw [decide_eq_true z0, decide_eq_true z1]
          go_enter Tryz.func120, Tryz.ntmps120
          go_wp2
          all_goals go_returns
          all_goals exact ⟨rfl, HB.out⟩
        · rw [decide_eq_true z0, decide_eq_false z1]
          go_enter Tryz.func120, Tryz.ntmps120
          go_wp2
          all_goals go_returns
          all_goals exact ⟨rfl, HB.out⟩
      · rw [decide_eq_false z0, Bool.false_and]
        go_enter Tryz.func120, Tryz.ntmps120
        go_wp2
        all_goals go_returns
        all_goals exact ⟨rfl, HB.out⟩
  have e2 : (op == 14) = false := by simp; omega
  have e3 : (op == 15) = false := by simp; omega
  have hv : decide (NV.ok len ⟨op, n⟩) = (decide (1 < op) && decide (op ≤ 16) && decide (n = 0)) := by
    rw [Bool.eq_iff_iff, Bool.and_eq_true, Bool.and_eq_true, decide_eq_true_eq, decide_eq_true_eq, decide_eq_true_eq, decide_eq_true_eq]
    unfold NV.ok
    simp only
    omega
  rw [hv]
  clear hv h1 hj
  by_cases z0 : 1 < op
  · rw [decide_eq_true z0]
    by_cases z1 : op ≤ 16
    · rw [decide_eq_true z1]
      by_cases z2 : n = 0
      · subst z2
        go_enter Tryz.func120, Tryz.ntmps120
        go_wp2
        all_goals go_returns
        all_goals exact ⟨rfl, HB.out⟩
      · rw [decide_eq_false z2]
        have e4 : (n == 0) = false := by simpa using z2
        go_enter Tryz.func120, Tryz.ntmps120
        go_wp2
        all_goals go_returns
        all_goals exact ⟨rfl, HB.out⟩
    · rw [decide_eq_false z1, Bool.true_and, Bool.false_and]
      go_enter Tryz.func120, Tryz.ntmps120
      go_wp2
      all_goals go_returns
      all_goals exact ⟨rfl, HB.out⟩
  · rw [decide_eq_false z0, Bool.false_and, Bool.false_and]
    go_enter Tryz.func120, Tryz.ntmps120
    go_wp2
    all_goals go_returns
    all_goals exact ⟨rfl, HB.out⟩
set_option maxRecDepth 100000 in
set_option maxHeartbeats 8000000 in
theorem pright_row (xs : List NV) (b off cap : Nat) (w : World) (hl : xs.length ≤ 900000) (hb : b < w.heap.size) (hr : RC.Row w b off xs) :
    Calls Tryz.prog 106 #[.slice (some ⟨b, off, none⟩) xs.length cap] w (Ret (.bool (rightC xs)) w) := by
  have hrow : Hid (∀ (W : World), Below w.heap.size w W → ∀ j, j < xs.length → _) := fun W hW j hj => atC7 (hr.below hW hb) j hj
  have hstep := Lib.hid (fun j (hj : j < xs.length) => all_drop (len := xs.length) hj)
  have hst : xs.length ≤ 64 → (xs.drop 0).all (fun x => decide (x.ok xs.length)) = rightC xs := fun h => by unfold rightC; rw [decide_eq_true h, Bool.and_true]; rfl
  have hbig : ¬ xs.length ≤ 64 → rightC xs = false := fun h => by unfold rightC; rw [decide_eq_false h, Bool.and_false]
  have hend : ((xs.drop xs.length).all fun x => decide (x.ok xs.length)) = true := by rw [List.drop_length]; rfl
  have HSt := Lib.hid hst; have HEnd := Lib.hid hend; have HBig := Lib.hid hbig
  clear hr hst hend hbig
  generalize rightC xs = res at *
  generalize hn : xs.length = n at *
  have HN := Lib.hid hn
  clear hn
  have HC := Lib.hid (fun op nn W => prightOne_any op nn n W)
  by_cases h64 : (n : Int) > 64
  · have hq := HBig.out (by omega)
    subst hq
    clear hrow hstep
    go_enter Tryz.func106, Tryz.ntmps106
    go_wp2
    all_goals go_returns
    all_goals exact ⟨rfl, Below.refl _ _⟩
  have HSt2 := Lib.hid (HSt.out (by omega))
  clear HSt HBig
  go_enter Tryz.func106, Tryz.ntmps106
  go_wp2
  go_loopg [10] n (fun gg i wr => ∃ k : Nat, k ≤ n ∧ n - k ≤ gg ∧ i = .int .i64 k ∧ Hid (Below w.heap.size w wr) ∧ Hid ((xs.drop k).all (fun x => decide (x.ok n)) = res))
  case atStart => exact ⟨0, Nat.zero_le _, by omega, rfl, (Below.refl _ _), HSt2.out⟩
  case round =>
    obtain ⟨k, hkn, hg, rfl, HB, HQ⟩ := hrel
    by_cases hlt : k < n
    · have hlz : (k : Int) < (n : Int) := by omega
      have hc := hrow.out wr HB.out k hlt
      have hq := HQ.out
      rw [hstep.out k hlt] at hq
      generalize xs[k]! = x at hc hq
      obtain ⟨op, nn⟩ := x
      obtain ⟨f0, f1⟩ := hc
      simp only at f0 f1
      have HCx := Lib.hid (HC.out op nn)
      generalize decide (NV.ok n ⟨op, nn⟩) = ok at *
      have HB1 := Lib.hid (HB.out.alloc HB.out.size (.cells #[.int .i64 op, .int .i64 nn] 112))
      clear hrow hstep HQ HC
      have HQ2 := Lib.hid hq
      clear hq
      go_wp2_with fail
      refine (HCx.out _).mono ?_
      rintro e w1 ⟨rfl, hb1⟩
      have HB2 := Lib.hid (HB1.out.trans (hb1.mono HB1.out.size))
      clear hb1 f0 f1
      cases ok
      · have hq := HQ2.out
        rw [Bool.false_and] at hq
        subst hq
        go_wp2
        all_goals go_returns
        all_goals exact ⟨rfl, HB2.out⟩
      · have hq := HQ2.out
        rw [Bool.true_and] at hq
        have HQ3 := Lib.hid hq
        clear hq
        go_wp2
        go_roundg (n - (k + 1))
        case measure => omega
        case rel => exact ⟨k + 1, by omega, by omega, by go_num, HB2.out, HQ3.out⟩
    · have hlz : ¬ (k : Int) < (n : Int) := by omega
      obtain rfl : k = n := by omega
      have hq := HQ.out
      rw [HEnd.out] at hq
      subst hq
      clear hrow hstep HQ
      go_wp2
      all_goals go_returns
      all_goals exact ⟨rfl, HB.out⟩
set_option maxHeartbeats 2000000 in
theorem pright_nil (p : Option Addr) (cap : Nat) (w : World) : Calls Tryz.prog 106 #[.slice p 0 cap] w (Ret (.bool (rightC [])) w) := by
  have h : rightC [] = true := rfl
  rw [h]
  go_enter Tryz.func106, Tryz.ntmps106
  go_wp2
  refine wp_loop_rounds 1 ?_
  rw [rounds_succ]
  go_wp2
  go_returns
  exact ⟨rfl, Below.refl _ _⟩
theorem pright_any (xs : List NV) (v : Value) (w : World) (hl : xs.length ≤ 900000) (h : RC.Is w v xs) : Calls Tryz.prog 106 #[v] w (Ret (.bool (rightC xs)) w) := by
  rcases h with ⟨rfl, p, cap, rfl, _⟩ | ⟨_, b, off, cap, rfl, hb, hr⟩
  · exact pright_nil p cap w
  · exact pright_row xs b off cap w hl hb hr
end Go.Proofs.YtjaahmgokiobjaaGreat
/- the program's Depth and Takes, of a graph whose scopes are in order -/
namespace Go.Proofs.YtjaahmgokiobjaaGreat
open Go.RowKit
set_option linter.unusedVariables false
set_option linter.unusedSimpArgs false

/-- each scope but the first one has a parent ahead of it -/
structure Tree (g : GV) : Prop where
  root : 0 < g.parent.length → g.parent[0]! = -1
  ahead : ∀ s : Nat, 0 < s → s < g.parent.length → 0 ≤ g.parent[s]! ∧ g.parent[s]! < (s : Int)
  chain : ∀ s : Int, 0 ≤ s → s < (g.parent.length : Int) → (chainL g.parent 10 s).length ≤ 4
/-- an operator's scope, but of one of the kind the parent of that -/
def butG (g : GV) (n : Nat) (ac : Int) : Int := if g.nodes[n]!.kind = ac then g.parent[g.nodes[n]!.scope.toNat]! else g.nodes[n]!.scope
theorem but_takes (g : GV) (n : Nat) : butG g n 10 = placeG g n false := by unfold butG placeG; simp
theorem but_gives (g : GV) (n : Nat) : butG g n 11 = placeG g n true := by unfold butG placeG; simp
set_option maxRecDepth 100000 in
set_option maxHeartbeats 8000000 in
theorem pbut_any (g : GV) (v : Value) (n : Nat) (ac : Int) (w : World) (h : IsG w v g) (hn : n < g.nodes.length) (hN : g.nodes.length ≤ 900000) (hs : scopeOk g n) :
    Calls Tryz.prog 86 #[v, .int .i64 (n : Int), .int .i64 ac] w (Ret (.int .i64 (butG g n ac)) w) := by
  unfold scopeOk at hs
  obtain ⟨p1, c1, p2, c2, p3, c3, p4, c4, rfl, G⟩ := h.go
  clear h
  obtain ⟨s, hsn⟩ : ∃ s : Nat, g.nodes[n]!.scope = (s : Int) := ⟨g.nodes[n]!.scope.toNat, by omega⟩
  obtain ⟨b, off, p, c, rfl, _, hc⟩ := G.nod n hn
  obtain ⟨b2, off2, rfl, _⟩ := G.par w (Below.refl _ _) s (by omega)
  have HP : Hid (∀ W, Below w.heap.size w W → W.cell? ⟨b2, off2 + s, none⟩ = some (.int .i64 g.parent[s]!)) := fun W hW => by
    obtain ⟨b', off', e, hc'⟩ := G.par W hW s (by omega)
    simp only [Option.some.injEq, Addr.mk.injEq] at e
    obtain ⟨rfl, rfl, _⟩ := e
    exact hc'
  have HV : Hid (butG g n ac = if g.nodes[n]!.kind = ac then g.parent[s]! else (s : Int)) := by
    show butG g n ac = _
    unfold butG
    rw [hsn]
    rfl
  have hsl : (s : Int) < (g.parent.length : Int) := by omega
  have hnl : (n : Int) < (g.nodes.length : Int) := by omega
  clear G hs hn hN
  rw [hsn] at hc
  clear hsn
  generalize butG g n ac = V at *
  generalize g.nodes[n]!.kind = k at *
  generalize g.nodes[n]!.arg = ar at *
  generalize g.nodes[n]!.prog.length = pl at *
  generalize g.parent[s]! = ps at *
  generalize g.parent.length = n1 at *
  generalize g.bound.length = n2 at *
  generalize g.nodes.length = n3 at *
  generalize g.edges.length = n4 at *
  have HC := Lib.hid hc
  clear hc
  have HB0 := Lib.hid ((Below.refl w.heap.size w).alloc (Nat.le_refl _) (.cells #[.slice (some ⟨b2, off2, none⟩) n1 c1, .slice p2 n2 c2, .slice (some ⟨b, off, none⟩) n3 c3, .slice p4 n4 c4] 26))
  obtain ⟨e0, e1, e2, e3⟩ := HC.out _ (Below.refl _ _)
  have e4 := HP.out _ (Below.refl _ _)
  have hb0 : b < w.heap.size := World.block_lt_of_cell? _ _ e0
  have hb2 : b2 < w.heap.size := World.block_lt_of_cell? _ _ e4
  have D0 := Nat.ne_of_lt hb0
  have D2 := Nat.ne_of_lt hb2
  clear HC HP HB0
  by_cases hk : k = ac
  · subst hk
    obtain rfl : V = ps := by rw [HV.out, if_pos rfl]
    go_enter Tryz.func86, Tryz.ntmps86
    go_wp2
    go_returns
    exact ⟨rfl, by go_grown⟩
  · obtain rfl : V = (s : Int) := by rw [HV.out, if_neg hk]
    have hk1 : (k == ac) = false := by simpa using hk
    have hk2 : (k != ac) = true := by simpa using hk
    clear HV
    go_enter Tryz.func86, Tryz.ntmps86
    go_wp2
    go_returns
    exact ⟨rfl, by go_grown⟩
set_option maxRecDepth 100000 in
set_option maxHeartbeats 8000000 in
theorem ptakesIn_any (g : GV) (v : Value) (n : Nat) (w : World) (h : IsG w v g) (hn : n < g.nodes.length) (hN : g.nodes.length ≤ 900000) (hs : scopeOk g n) :
    Calls Tryz.prog 61 #[v, .int .i64 (n : Int)] w (Ret (.int .i64 (placeG g n false)) w) := by
  have H1 : Hid (∀ W, Below w.heap.size w W → Calls Tryz.prog 86 #[v, .int .i64 (n : Int), .int .i64 10] W (Ret (.int .i64 (placeG g n false)) W)) := fun W hW => by
    rw [← but_takes]
    exact pbut_any g v n 10 W (h.below hW) hn hN hs
  obtain ⟨p1, c1, p2, c2, p3, c3, p4, c4, rfl, G⟩ := h.go
  clear h G hs hn hN
  generalize placeG g n false = V at *
  generalize g.parent.length = n1 at *
  generalize g.bound.length = n2 at *
  generalize g.nodes.length = n3 at *
  generalize g.edges.length = n4 at *
  go_enter Tryz.func61, Tryz.ntmps61
  go_wp2_with fail
  refine (H1.out _ (by go_grown)).mono ?_
  rintro e w1 ⟨rfl, hb1⟩
  have HB1 := Lib.hid (bcall (B := w.heap.size) (a := w) (by go_grown) hb1 (by go_size))
  clear hb1
  go_wp2
  go_returns
  exact ⟨rfl, HB1.out⟩
set_option maxRecDepth 100000 in
set_option maxHeartbeats 8000000 in
theorem pdepth_any (g : GV) (v : Value) (s : Nat) (w : World) (h : IsG w v g) (T : Tree g) (hs : s < g.parent.length) (hl : g.parent.length ≤ 900000) :
    Calls Tryz.prog 60 #[v, .int .i64 (s : Int)] w (Ret (.int .i64 ((chainL g.parent 10 s).length : Int)) w) := by
  obtain ⟨p1, c1, p2, c2, p3, c3, p4, c4, rfl, G⟩ := h.go
  clear h
  have HP : Hid (∀ W, Below w.heap.size w W → ∀ j, j < g.parent.length → ∃ b off, p1 = some ⟨b, off, none⟩ ∧ W.cell? ⟨b, off + j, none⟩ = some (.int .i64 g.parent[j]!)) := fun W hW j hj => G.par W hW j hj
  have HU : Hid (∀ j : Nat, 0 < j → j < g.parent.length → ∃ q : Nat, g.parent[j]! = (q : Int) ∧ q < j ∧ (chainL g.parent 10 j).length = (chainL g.parent 10 q).length + 1) := fun j h0 hj => by
    have a := T.ahead j h0 hj
    refine ⟨(g.parent[j]!).toNat, by omega, by omega, ?_⟩
    have hq : ((g.parent[j]!).toNat : Int) = g.parent[j]! := by omega
    have ch := T.chain (g.parent[j]!) a.1 (by omega)
    have := chain_up (P := g.parent) (s := (j : Int)) (by omega) (by omega) (by show (chainL g.parent 10 (g.parent[(j : Int).toNat]!)).length ≤ 9; rw [Int.toNat_natCast]; omega)
    rw [Int.toNat_natCast] at this
    rw [hq]
    exact this
  have H0 : Hid ((chainL g.parent 10 ((0 : Nat) : Int)).length = 1) := by
    have hr := T.root (by omega)
    have hm : chainL g.parent 10 (-1) = [] := by unfold chainL; rw [if_neg (by omega)]
    have := chain_up (P := g.parent) (s := 0) (by omega) (by omega) (by show (chainL g.parent 10 (g.parent[0]!)).length ≤ 9; rw [hr, hm]; simp)
    have e : g.parent[(0 : Int).toNat]! = -1 := hr
    rw [e, hm] at this
    exact this
  have HLt : Hid (∀ j : Nat, j < g.parent.length → (chainL g.parent 10 (j : Int)).length ≤ 4) := fun j hj => T.chain j (by omega) (by omega)
  clear G T
  have hsl : (s : Int) < (g.parent.length : Int) := by omega
  generalize hL : (chainL g.parent 10 (s : Int)).length = L
  have HL := Lib.hid hL
  have hL4 : L ≤ 4 := by rw [← hL]; exact HLt.out s hs
  clear hL HLt
  generalize hn1 : g.parent.length = n1 at *
  generalize g.bound.length = n2 at *
  generalize g.nodes.length = n3 at *
  generalize g.edges.length = n4 at *
  clear hn1
  have HB0 := Lib.hid ((Below.refl w.heap.size w).alloc (Nat.le_refl _) (.cells #[.slice p1 n1 c1, .slice p2 n2 c2, .slice p3 n3 c3, .slice p4 n4 c4] 26))
  have HX0 : Hid (rowOf (w.alloc (.cells #[.slice p1 n1 c1, .slice p2 n2 c2, .slice p3 n3 c3, .slice p4 n4 c4] 26)) w.heap.size = some #[.slice p1 n1 c1, .slice p2 n2 c2, .slice p3 n3 c3, .slice p4 n4 c4]) := row_new rfl
  have x1 : decide ((s : Int) < 0) = false := decide_eq_false (by omega)
  have x2 : decide (n1 ≤ s) = false := decide_eq_false (by omega)
  go_enter Tryz.func60, Tryz.ntmps60
  go_wp2
  go_loopg [1, 5] s (fun gg sv dv wr => ∃ t d : Nat, t ≤ gg ∧ t < n1 ∧ sv = .int .i64 (t : Int) ∧ dv = .int .i64 (d : Int) ∧ Hid (d + (chainL g.parent 10 (t : Int)).length = L + 1) ∧ Hid (Below w.heap.size w wr) ∧ Hid (rowOf wr w.heap.size = some #[.slice p1 n1 c1, .slice p2 n2 c2, .slice p3 n3 c3, .slice p4 n4 c4]))
  case atStart => exact ⟨s, 1, Nat.le_refl _, hs, rfl, rfl, by rw [Hid, HL.out]; omega, HB0.out, HX0.out⟩
  case round =>
    obtain ⟨t, d, hg, htn, rfl, rfl, HD, HB, HX⟩ := hrel
    have d0 : wr.cell? ⟨w.heap.size, 0, none⟩ = some (.slice p1 n1 c1) := rowOf_cell HX.out 0
    by_cases ht : 0 < t
    · obtain ⟨q, hq, hqt, hch⟩ := HU.out t ht htn
      obtain ⟨b, off, rfl, hc⟩ := HP.out wr HB.out t htn
      rw [hq] at hc
      have htz : (t : Int) > 0 := by omega
      have htl : (t : Int) < (n1 : Int) := by omega
      have hqz : (q : Int) < (t : Int) := by omega
      have HD2 : Hid (d + 1 + (chainL g.parent 10 (q : Int)).length = L + 1) := by have := HD.out; rw [hch] at this; rw [Hid]; omega
      have hd4 : d ≤ 5 := by have := HD2.out; omega
      clear hq hch HD HU HP
      go_wp2
      go_roundg q
      case measure => omega
      case rel => exact ⟨q, d + 1, Nat.le_refl _, by omega, rfl, by go_num, HD2.out, HB.out, HX.out⟩
    · obtain rfl : t = 0 := by omega
      have htz : ¬ ((0 : Nat) : Int) > 0 := by omega
      have hdl : d = L := by have := HD.out; rw [H0.out] at this; omega
      subst hdl
      clear HD HU HP
      go_wp2
      go_returns
      exact ⟨rfl, HB.out⟩
set_option maxRecDepth 100000 in
set_option maxHeartbeats 8000000 in
theorem ptakes_any (g : GV) (v : Value) (n : Nat) (w : World) (h : IsG w v g) (M : May g) (T : Tree g) (hn : n < g.nodes.length) :
    Calls Tryz.prog 34 #[v, .int .i64 (n : Int)] w (Ret (.int .i64 (levelG g n false : Int)) w) := by
  have hin := M.inScope n hn false
  obtain ⟨s, hs⟩ : ∃ s : Nat, placeG g n false = (s : Int) := ⟨(placeG g n false).toNat, by omega⟩
  have H1 : Hid (∀ W, Below w.heap.size w W → Calls Tryz.prog 61 #[v, .int .i64 (n : Int)] W (Ret (.int .i64 (s : Int)) W)) := fun W hW => by
    rw [← hs]
    exact ptakesIn_any g v n W (h.below hW) hn (by have := M.nodes; omega) (M.scope n hn)
  have H2 : Hid (∀ W, Below w.heap.size w W → Calls Tryz.prog 60 #[v, .int .i64 (s : Int)] W (Ret (.int .i64 (levelG g n false : Int)) W)) := fun W hW => by
    have q := pdepth_any g v s W (h.below hW) T (by omega) (by have := M.parent; omega)
    unfold levelG
    rw [hs]
    exact q
  obtain ⟨p1, c1, p2, c2, p3, c3, p4, c4, rfl, G⟩ := h.go
  clear h G hn hin hs M T
  generalize (levelG g n false : Int) = L at *
  generalize g.parent.length = n1 at *
  generalize g.bound.length = n2 at *
  generalize g.nodes.length = n3 at *
  generalize g.edges.length = n4 at *
  go_enter Tryz.func34, Tryz.ntmps34
  go_wp2_with fail
  refine gen_world (fun W2 => Below w.heap.size w W2 ∧ rowOf W2 w.heap.size = some #[.slice p1 n1 c1, .slice p2 n2 c2, .slice p3 n3 c3, .slice p4 n4 c4]) ⟨by go_grown, row_new rfl⟩ ?_
  rintro w2 ⟨hB2, hr2⟩
  have HB2 := Lib.hid hB2
  have x0 := fun p : Bx w2 => bx_cell (rowOf_cell hr2 0 : _ = some (.slice p1 n1 c1)) p
  have x1 := fun p : Bx w2 => bx_cell (rowOf_cell hr2 1 : _ = some (.slice p2 n2 c2)) p
  have x2 := fun p : Bx w2 => bx_cell (rowOf_cell hr2 2 : _ = some (.slice p3 n3 c3)) p
  have x3 := fun p : Bx w2 => bx_cell (rowOf_cell hr2 3 : _ = some (.slice p4 n4 c4)) p
  have K1 : Hid (∀ p : Bx w2, Calls Tryz.prog 61 #[.agg #[.slice p1 n1 c1, .slice p2 n2 c2, .slice p3 n3 c3, .slice p4 n4 c4], .int .i64 (n : Int)] p.w (Ret (.int .i64 (s : Int)) p.w)) := fun p => H1.out p.w (bstep HB2.out p.h HB2.out.size)
  have K2 : Hid (∀ p : Bx w2, Calls Tryz.prog 60 #[.agg #[.slice p1 n1 c1, .slice p2 n2 c2, .slice p3 n3 c3, .slice p4 n4 c4], .int .i64 (s : Int)] p.w (Ret (.int .i64 L) p.w)) := fun p => H2.out p.w (bstep HB2.out p.h HB2.out.size)
  clear hB2 hr2 H1 H2
  refine wp_region_bx (by kernel_rfl) (by kernel_rfl) ?_
  repeat (first | go_big_quiet_step (first | (with_reducible exact Calls.bx (K1.out _)) | (with_reducible exact Calls.bx (K2.out _))) | quiet_step (first | (with_reducible exact Calls.bx (K1.out _)) | (with_reducible exact Calls.bx (K2.out _))))
  refine wpQuiet_nil ?_
  intro _ hw'
  obtain ⟨g9, hw''⟩ := hw'
  subst hw''
  have HB9 := Lib.hid (bstep HB2.out g9.h HB2.out.size)
  generalize g9.w = w9 at HB9 ⊢
  clear x0 x1 x2 x3 K1 K2
  go_wp2
  go_returns
  exact ⟨rfl, HB9.out⟩
end Go.Proofs.YtjaahmgokiobjaaGreat
