/- instructions (NV), rows of them (RC); right programs (rightC); the document's Right -/
import Derived.Test.YtacmdkbmakfdkaaG01
import Derived.Test.YtacmdkbmakfdkaaG08
import Derived.Test.YtacmdkbmakfdkaaG15
namespace Go.Proofs.Ytacmdkbmakfdkaa
open Go.RowKit
set_option linter.unusedVariables false
set_option linter.unusedSimpArgs false

def rightC (p : List NV) : Bool := (p.all fun x => decide (x.ok p.length)) && decide (p.length ≤ 64)
theorem all_drop {p : List NV} {len k : Nat} (h : k < p.length) : ((p.drop k).all fun x => decide (x.ok len)) = (decide (p[k]!.ok len) && (p.drop (k + 1)).all fun x => decide (x.ok len)) := by
  rw [List.drop_eq_getElem_cons h, List.all_cons, getElem!_pos p k h]
set_option maxRecDepth 100000 in
set_option maxHeartbeats 8000000 in
theorem rright_row (xs : List NV) (b off cap : Nat) (w : World) (hl : xs.length ≤ 900000) (hb : b < w.heap.size) (hr : RC.Row w b off xs) :
    Calls Try.prog 71 #[.slice (some ⟨b, off, none⟩) xs.length cap] w (Ret (.bool (rightC xs)) w) := by
  have hrow : Hid (∀ (W : World), Below w.heap.size w W → ∀ j, j < xs.length → _) := fun W hW j hj => atC7 (hr.below hW hb) j hj
  have hstep := Lib.hid (fun j (hj : j < xs.length) => all_drop (len := xs.length) hj)
  have hst : (((xs.drop 0).all fun x => decide (x.ok xs.length)) && decide (xs.length ≤ 64)) = rightC xs := rfl
  have hend : ((xs.drop xs.length).all fun x => decide (x.ok xs.length)) = true := by rw [List.drop_length]; rfl
  have HSt := Lib.hid hst; have HEnd := Lib.hid hend
  clear hr hst hend
  generalize rightC xs = res at *
  generalize hn : xs.length = n at *
  have HN := Lib.hid hn
  clear hn
  go_enter Try.func71, Try.ntmps71
  go_wp2
  go_loopg [3] n (fun gg i wr => ∃ k : Nat, k ≤ n ∧ n - k ≤ gg ∧ i = .int .i64 k ∧ Hid (Below w.heap.size w wr) ∧ Hid ((((xs.drop k).all fun x => decide (x.ok n)) && decide (n ≤ 64)) = res))
  case atStart => exact ⟨0, Nat.zero_le _, by omega, rfl, (Below.refl _ _), HSt.out⟩
  case round =>
    obtain ⟨k, hkn, hg, rfl, HB, HC⟩ := hrel
    by_cases hlt : k < n
    · have hlz : (k : Int) < (n : Int) := by omega
      have hc := fun m => hrow.out (wr.drewN m) (below_drewN HB.out m) k hlt
      have hq := HC.out
      rw [hstep.out k hlt] at hq
      generalize xs[k]! = x at hc hq
      obtain ⟨op, nn⟩ := x
      have f0 := fun m => (hc m).1; have f1 := fun m => (hc m).2
      simp only at f0 f1
      have HBd := fun m => below_drewN HB.out m
      clear hc hrow hstep HC
      by_cases hok : NV.ok n ⟨op, nn⟩
      · rw [decide_eq_true hok, Bool.true_and] at hq
        have HQ := Lib.hid hq
        clear hq
        have h1 : 1 ≤ op := hok.1
        have h2 : op ≤ 16 := hok.2.1
        have h3 : (op = 14 ∨ op = 15) → 0 ≤ nn ∧ nn ≤ (n : Int) := hok.2.2.1
        have h4 : (op ≠ 1 ∧ op ≠ 14 ∧ op ≠ 15) → nn = 0 := hok.2.2.2
        clear hok
        by_cases g14 : op = 14
        · subst g14
          obtain ⟨k0, k1⟩ := h3 (by omega)
          clear h3 h4
          go_wp2_with fail
          go_quiet (fail)
          go_wp2
          go_roundg (n - (k + 1))
          case measure => omega
          case rel => exact ⟨k + 1, by omega, by omega, by go_num, HBd _, HQ.out⟩
        by_cases g15 : op = 15
        · subst g15
          obtain ⟨k0, k1⟩ := h3 (by omega)
          clear h3 h4 g14
          go_wp2_with fail
          go_quiet (fail)
          go_wp2
          go_roundg (n - (k + 1))
          case measure => omega
          case rel => exact ⟨k + 1, by omega, by omega, by go_num, HBd _, HQ.out⟩
        have b14 : (op == 14) = false := by simpa using g14
        have b15 : (op == 15) = false := by simpa using g15
        have c14 : (op != 14) = true := by simpa using g14
        have c15 : (op != 15) = true := by simpa using g15
        by_cases g1 : op = 1
        · subst g1
          clear h3 h4 g14 g15
          go_wp2_with fail
          go_quiet (fail)
          go_wp2
          go_roundg (n - (k + 1))
          case measure => omega
          case rel => exact ⟨k + 1, by omega, by omega, by go_num, HBd _, HQ.out⟩
        · have c1 : (op != 1) = true := by simpa using g1
          have h5 := h4 ⟨g1, g14, g15⟩
          subst h5
          clear h3 h4 g14 g15 g1
          go_wp2_with fail
          go_quiet (fail)
          go_wp2
          go_roundg (n - (k + 1))
          case measure => omega
          case rel => exact ⟨k + 1, by omega, by omega, by go_num, HBd _, HQ.out⟩
      · rw [decide_eq_false hok, Bool.false_and, Bool.false_and] at hq
        subst hq
        have hbad : op < 1 ∨ 16 < op ∨ ((op = 14 ∨ op = 15) ∧ (nn < 0 ∨ (n : Int) < nn)) ∨ ((op ≠ 1 ∧ op ≠ 14 ∧ op ≠ 15) ∧ nn ≠ 0) := by
          unfold NV.ok at hok
          simp only at hok
          omega
        clear hok
        by_cases z1 : op < 1
        · clear hbad
          go_wp2_with fail
          go_quiet (fail)
          go_wp2
          go_returns
          exact ⟨rfl, HBd _⟩
        by_cases z2 : op > 16
        · clear hbad
          go_wp2_with fail
          go_quiet (fail)
          go_wp2
          go_returns
          exact ⟨rfl, HBd _⟩
        by_cases g14 : op = 14
        · subst g14
          have hbad : nn < 0 ∨ (0 ≤ nn ∧ nn > (n : Int)) := by omega
          rcases hbad with hbad | ⟨hb1, hbad⟩
          all_goals
            go_wp2_with fail
            go_quiet (fail)
            go_wp2
            go_returns
            exact ⟨rfl, HBd _⟩
        by_cases g15 : op = 15
        · subst g15
          have hbad : nn < 0 ∨ (0 ≤ nn ∧ nn > (n : Int)) := by omega
          clear g14
          rcases hbad with hbad | ⟨hb1, hbad⟩
          all_goals
            go_wp2_with fail
            go_quiet (fail)
            go_wp2
            go_returns
            exact ⟨rfl, HBd _⟩
        have b14 : (op == 14) = false := by simpa using g14
        have b15 : (op == 15) = false := by simpa using g15
        have c14 : (op != 14) = true := by simpa using g14
        have c15 : (op != 15) = true := by simpa using g15
        have c1 : (op != 1) = true := by simp; omega
        have cn : (nn != 0) = true := by simp; omega
        clear hbad g14 g15
        go_wp2_with fail
        go_quiet (fail)
        go_wp2
        go_returns
        exact ⟨rfl, HBd _⟩
    · have hlz : ¬ (k : Int) < (n : Int) := by omega
      obtain rfl : k = n := by omega
      have hq := HC.out
      rw [HEnd.out, Bool.true_and] at hq
      clear HC hrow hstep
      by_cases h64 : k ≤ 64
      · have hz : (k : Int) ≤ 64 := by omega
        rw [decide_eq_true h64] at hq
        subst hq
        go_wp2
        go_returns
        exact ⟨rfl, HB.out⟩
      · have hz : ¬ (k : Int) ≤ 64 := by omega
        rw [decide_eq_false h64] at hq
        subst hq
        go_wp2
        go_returns
        exact ⟨by first | rfl | (apply ret_bool; simp; omega), HB.out⟩
set_option maxHeartbeats 2000000 in
theorem rright_nil (p : Option Addr) (cap : Nat) (w : World) : Calls Try.prog 71 #[.slice p 0 cap] w (Ret (.bool (rightC [])) w) := by
  have h : rightC [] = true := rfl
  rw [h]
  go_enter Try.func71, Try.ntmps71
  go_wp2
  refine wp_loop_rounds 1 ?_
  rw [rounds_succ]
  go_wp2
  go_returns
  exact ⟨rfl, Below.refl _ _⟩
theorem rright_any (xs : List NV) (v : Value) (w : World) (hl : xs.length ≤ 900000) (h : RC.Is w v xs) : Calls Try.prog 71 #[v] w (Ret (.bool (rightC xs)) w) := by
  rcases h with ⟨rfl, p, cap, rfl, _⟩ | ⟨_, b, off, cap, rfl, hb, hr⟩
  · exact rright_nil p cap w
  · exact rright_row xs b off cap w hl hb hr
end Go.Proofs.Ytacmdkbmakfdkaa
/- plain: an operator's error, as the document finds it -/
namespace Go.Proofs.Ytacmdkbmakfdkaa
open Go.RowKit
set_option linter.unusedVariables false
set_option linter.unusedSimpArgs false

def nodeV (k s : Int) (n1 : Nat) (fo : Bool) (ar : Int) (rt : Bool) (pl : Nat) : Int :=
  if k < 1 ∨ 15 < k then 1 else if s < 0 ∨ (n1 : Int) ≤ s then 6
  else if (s = 0 ∧ 10 ≤ k ∧ k ≤ 12) ∨ (0 < s ∧ (k = 1 ∨ k = 15)) then 6 else if fo = false then 6
  else if (k = 4 ∧ ar < 1) ∨ (k ≠ 4 ∧ k ≠ 3 ∧ ar ≠ 0) then 1 else if (k = 2 ∧ rt = false) ∨ (k ≠ 2 ∧ 0 < pl) then 13 else 0
def nodeE (g : GV) (n : Nat) : Int := nodeV g.nodes[n]!.kind g.nodes[n]!.scope g.parent.length (followsG g n) g.nodes[n]!.arg (rightC g.nodes[n]!.prog) g.nodes[n]!.prog.length
end Go.Proofs.Ytacmdkbmakfdkaa
/- plain: the document's Check as a function; where it finds nothing, ways have what they ask for -/
namespace Go.Proofs.Ytacmdkbmakfdkaa
open Go.RowKit
set_option linter.unusedVariables false
set_option linter.unusedSimpArgs false

def scopeE (g : GV) (s : Nat) : Int :=
  if (s = 0 ∧ g.parent[s]! = -1 ∧ g.bound[s]! = 0) ∨ (0 < s ∧ 0 ≤ g.parent[s]! ∧ g.parent[s]! < (s : Int) ∧ 1 ≤ g.bound[s]! ∧ g.bound[s]! ≤ 64 ∧ (chainL g.parent 10 (s : Int)).length ≤ 4) then 0 else 6
def edgeV (src dst port : Int) (ex : Bool) (n3 : Nat) (ks kd ps pd pk : Int) (tk : Bool) : Int :=
  if src < 0 ∨ (n3 : Int) ≤ src ∨ dst < 0 ∨ (n3 : Int) ≤ dst ∨ ks = 15 ∨ port < 0 ∨ pk ≤ port then 7
  else if ps ≠ pd then 6 else if ks ≠ 12 ∧ dst ≤ src then 8
  else if ex = false ∧ (kd = 6 ∨ kd = 7 ∨ kd = 8 ∨ kd = 9 ∨ kd = 14) then 1 else if tk = true then 7 else 0
/-- is the port taken by an edge ahead? -/
def takenG (g : GV) (i : Nat) : Bool := (List.range i).any (fun j => decide (g.edges[j]!.dst = g.edges[i]!.dst) && decide (g.edges[j]!.port = g.edges[i]!.port))
def edgeE (g : GV) (i : Nat) : Int := edgeV g.edges[i]!.src g.edges[i]!.dst g.edges[i]!.port g.edges[i]!.ex g.nodes.length g.nodes[g.edges[i]!.src.toNat]!.kind g.nodes[g.edges[i]!.dst.toNat]!.kind
  (placeG g g.edges[i]!.src.toNat true) (placeG g g.edges[i]!.dst.toNat false) (portsG g.nodes[g.edges[i]!.dst.toNat]!.kind) (takenG g i)
def openE (g : GV) (n : Nat) : Int := if (((List.range g.edges.length).countP fun i => decide (g.edges[i]!.dst = (n : Int)) : Nat) : Int) < portsG g.nodes[n]!.kind then 7 else 0
/-- the first of n numbers that isn't 0, and where -/
def firstE (f : Nat → Int) (n : Nat) : Option (Int × Int) := ((List.range n).find? fun i => decide (f i ≠ 0)).map fun i => (f i, (i : Int))
theorem firstE_none {f : Nat → Int} {n : Nat} (h : firstE f n = none) : ∀ i, i < n → f i = 0 := fun i hi => by
  unfold firstE at h
  rw [Option.map_eq_none_iff, List.find?_eq_none] at h
  have := h i (List.mem_range.2 hi)
  simpa using this
theorem firstE_some {f : Nat → Int} {n : Nat} {p : Int × Int} (h : firstE f n = some p) : p.1 ≠ 0 := by
  unfold firstE at h
  rw [Option.map_eq_some_iff] at h
  obtain ⟨i, hi, rfl⟩ := h
  have := List.find?_some hi
  simpa using this
/-- what Check finds, and where -/
def checkG (g : GV) : Int × Int :=
  if g.parent.length = 0 ∨ 8 < g.parent.length ∨ g.parent.length ≠ g.bound.length then (6, 0)
  else match firstE (scopeE g) g.parent.length with
  | some p => p
  | none => if g.nodes.length = 0 ∨ 32 < g.nodes.length ∨ 64 < g.edges.length then (11, 0)
    else match firstE (nodeE g) g.nodes.length with
    | some p => p
    | none => match firstE (edgeE g) g.edges.length with
      | some p => p
      | none => match firstE (openE g) g.nodes.length with
        | some p => p
        | none => (0, 0)
theorem checkG_may {g : GV} (h : (checkG g).1 = 0) : May g := by
  unfold checkG at h
  split at h
  · simp at h
  rename_i h1
  cases hs : firstE (scopeE g) g.parent.length with
  | some p => rw [hs] at h; exact absurd h (firstE_some hs)
  | none =>
  rw [hs] at h
  simp only at h
  split at h
  · simp at h
  rename_i h2
  cases hn : firstE (nodeE g) g.nodes.length with
  | some p => rw [hn] at h; exact absurd h (firstE_some hn)
  | none =>
  rw [hn] at h
  simp only at h
  cases he : firstE (edgeE g) g.edges.length with
  | some p => rw [he] at h; exact absurd h (firstE_some he)
  | none =>
  have S := firstE_none hs
  have Nn := firstE_none hn
  have Ee := firstE_none he
  have sc : ∀ s : Nat, s < g.parent.length → (s = 0 ∧ g.parent[s]! = -1) ∨ (0 < s ∧ 0 ≤ g.parent[s]! ∧ g.parent[s]! < (s : Int) ∧ (chainL g.parent 10 (s : Int)).length ≤ 4) := fun s hs => by
    have q := S s hs
    unfold scopeE at q
    split at q
    · rename_i c
      rcases c with c | c
      · exact .inl ⟨c.1, c.2.1⟩
      · exact .inr ⟨c.1, c.2.1, c.2.2.1, c.2.2.2.2.2⟩
    · simp at q
  have nd : ∀ v, v < g.nodes.length → scopeOk g v ∧ ((g.nodes[v]!.kind = 10 ∨ g.nodes[v]!.kind = 11 ∨ g.nodes[v]!.kind = 12) → g.nodes[v]!.scope ≠ 0) := fun v hv => by
    have q := Nn v hv
    unfold nodeE nodeV at q
    split at q
    · simp at q
    split at q
    · simp at q
    split at q
    · simp at q
    rename_i a b c
    exact ⟨by unfold scopeOk; omega, fun hk e => c (.inl (by omega))⟩
  have ed : ∀ i, i < g.edges.length → (0 ≤ g.edges[i]!.src ∧ g.edges[i]!.src < (g.nodes.length : Int) ∧ 0 ≤ g.edges[i]!.dst ∧ g.edges[i]!.dst < (g.nodes.length : Int)) ∧ placeG g g.edges[i]!.src.toNat true = placeG g g.edges[i]!.dst.toNat false := fun i hi => by
    have q := Ee i hi
    unfold edgeE edgeV at q
    split at q
    · simp at q
    split at q
    · simp at q
    rename_i a b
    refine ⟨by omega, ?_⟩
    exact Classical.not_not.1 b
  have c0 : (chainL g.parent 10 0).length ≤ 4 := by
    have q := sc 0 (by omega)
    have hp : g.parent[0]! = -1 := by
      rcases q with q | q
      · exact q.2
      · exact absurd q.1 (by omega)
    have e : chainL g.parent 10 0 = chainL g.parent 9 g.parent[0]! ++ [0] := by
      show (if _ then _ else _) = _
      rw [if_pos ⟨by omega, by omega⟩]
      rfl
    rw [e, hp]
    have : chainL g.parent 9 (-1) = [] := by
      show (if _ then _ else _) = _
      rw [if_neg (by omega)]
    rw [this]
    simp
  refine ⟨by omega, fun s h0 h1 => ?_, fun s h0 h1 => ?_, by omega, by omega, fun v hv => (nd v hv).1, fun v hv => (nd v hv).2, fun i hi => ?_, fun i hi => (ed i hi).2⟩
  · obtain ⟨k, rfl⟩ : ∃ k : Nat, s = (k : Int) := ⟨s.toNat, by omega⟩
    rcases sc k (by omega) with q | q
    · rw [q.1]; exact c0
    · exact q.2.2.2
  · obtain ⟨k, rfl⟩ : ∃ k : Nat, s = (k : Int) := ⟨s.toNat, by omega⟩
    rcases sc k (by omega) with q | q
    · omega
    · rw [Int.toNat_natCast]; omega
  · have := (ed i hi).1
    omega
end Go.Proofs.Ytacmdkbmakfdkaa
/- the program's own rightOne and Right -/
namespace Go.Proofs.Ytacmdkbmakfdkaa
open Go.RowKit
set_option linter.unusedVariables false
set_option linter.unusedSimpArgs false

theorem retB {a : Bool} {b : Bool} (h : a = b) : Ending.returned (.bool a) = .returned (.bool b) := by rw [h]
set_option maxRecDepth 100000 in
set_option maxHeartbeats 8000000 in
theorem prightOne_any (op n : Int) (len : Nat) (w : World) : Calls Try.prog 102 #[.agg #[.int .i64 op, .int .i64 n], .int .i64 (len : Int)] w (Ret (.bool (decide (NV.ok len ⟨op, n⟩))) w) := by
  have HB := Lib.hid ((Below.refl w.heap.size w).alloc (Nat.le_refl _) (.cells #[.int .i64 op, .int .i64 n] 120))
  by_cases h1 : op = 1
  · subst h1
    rw [decide_eq_true (show NV.ok len ⟨1, n⟩ by unfold NV.ok; simp only; omega)]
    go_enter Try.func102, Try.ntmps102
    go_wp2
    all_goals go_returns
    all_goals exact ⟨rfl, HB.out⟩
  have e1 : (op == 1) = false := by simpa using h1
  by_cases hj : op = 14 ∨ op = 15
  · have hv : decide (NV.ok len ⟨op, n⟩) = (decide (0 ≤ n) && decide (n ≤ (len : Int))) := by
      rw [Bool.eq_iff_iff, Bool.and_eq_true, decide_eq_true_eq, decide_eq_true_eq, decide_eq_true_eq]
      unfold NV.ok
      simp only
      omega
    rw [hv]
    clear hv h1
    have hop : op = 14 ∨ op = 15 := hj
    clear hj
    rcases hop with rfl | rfl
    all_goals
      by_cases z0 : 0 ≤ n
      · by_cases z1 : n ≤ (len : Int)
        · rw [decide_eq_true z0, decide_eq_true z1]
          go_enter Try.func102, Try.ntmps102
          go_wp2
          all_goals go_returns
          all_goals exact ⟨rfl, HB.out⟩
        · rw [decide_eq_true z0, decide_eq_false z1]
          go_enter Try.func102, Try.ntmps102
          go_wp2
          all_goals go_returns
          all_goals exact ⟨rfl, HB.out⟩
      · rw [decide_eq_false z0, Bool.false_and]
        go_enter Try.func102, Try.ntmps102
        go_wp2
        all_goals go_returns
        all_goals exact ⟨rfl, HB.out⟩
  have e2 : (op == 14) = false := by simp; omega
  have e3 : (op == 15) = false := by simp; omega
  have hv : decide (NV.ok len ⟨op, n⟩) = (decide (1 < op) && decide (op ≤ 16) && decide (n = 0)) := by
    rw [Bool.eq_iff_iff, Bool.and_eq_true, Bool.and_eq_true, decide_eq_true_eq, decide_eq_true_eq, decide_eq_true_eq, decide_eq_true_eq]
    unfold NV.ok
    simp only
    omega
  rw [hv]
  clear hv h1 hj
  by_cases z0 : 1 < op
  · rw [decide_eq_true z0]
    by_cases z1 : op ≤ 16
    · rw [decide_eq_true z1]
      by_cases z2 : n = 0
      · subst z2
        go_enter Try.func102, Try.ntmps102
        go_wp2
        all_goals go_returns
        all_goals exact ⟨rfl, HB.out⟩
      · rw [decide_eq_false z2]
        have e4 : (n == 0) = false := by simpa using z2
        go_enter Try.func102, Try.ntmps102
        go_wp2
        all_goals go_returns
        all_goals exact ⟨rfl, HB.out⟩
    · rw [decide_eq_false z1, Bool.true_and, Bool.false_and]
      go_enter Try.func102, Try.ntmps102
      go_wp2
      all_goals go_returns
      all_goals exact ⟨rfl, HB.out⟩
  · rw [decide_eq_false z0, Bool.false_and, Bool.false_and]
    go_enter Try.func102, Try.ntmps102
    go_wp2
    all_goals go_returns
    all_goals exact ⟨rfl, HB.out⟩
set_option maxRecDepth 100000 in
set_option maxHeartbeats 8000000 in
theorem pright_row (xs : List NV) (b off cap : Nat) (w : World) (hl : xs.length ≤ 900000) (hb : b < w.heap.size) (hr : RC.Row w b off xs) :
    Calls Try.prog 96 #[.slice (some ⟨b, off, none⟩) xs.length cap] w (Ret (.bool (rightC xs)) w) := by
  have hrow : Hid (∀ (W : World), Below w.heap.size w W → ∀ j, j < xs.length → _) := fun W hW j hj => atC7 (hr.below hW hb) j hj
  have hstep := Lib.hid (fun j (hj : j < xs.length) => all_drop (len := xs.length) hj)
  have hst : xs.length ≤ 64 → (xs.drop 0).all (fun x => decide (x.ok xs.length)) = rightC xs := fun h => by unfold rightC; rw [decide_eq_true h, Bool.and_true]; rfl
  have hbig : ¬ xs.length ≤ 64 → rightC xs = false := fun h => by unfold rightC; rw [decide_eq_false h, Bool.and_false]
  have hend : ((xs.drop xs.length).all fun x => decide (x.ok xs.length)) = true := by rw [List.drop_length]; rfl
  have HSt := Lib.hid hst; have HEnd := Lib.hid hend; have HBig := Lib.hid hbig
  clear hr hst hend hbig
  generalize rightC xs = res at *
  generalize hn : xs.length = n at *
  have HN := Lib.hid hn
  clear hn
  have HC := Lib.hid (fun op nn W => prightOne_any op nn n W)
  by_cases h64 : (n : Int) > 64
  · have hq := HBig.out (by omega)
    subst hq
    clear hrow hstep
    go_enter Try.func96, Try.ntmps96
    go_wp2
    all_goals go_returns
    all_goals exact ⟨rfl, Below.refl _ _⟩
  have HSt2 := Lib.hid (HSt.out (by omega))
  clear HSt HBig
  go_enter Try.func96, Try.ntmps96
  go_wp2
  go_loopg [10] n (fun gg i wr => ∃ k : Nat, k ≤ n ∧ n - k ≤ gg ∧ i = .int .i64 k ∧ Hid (Below w.heap.size w wr) ∧ Hid ((xs.drop k).all (fun x => decide (x.ok n)) = res))
  case atStart => exact ⟨0, Nat.zero_le _, by omega, rfl, (Below.refl _ _), HSt2.out⟩
  case round =>
    obtain ⟨k, hkn, hg, rfl, HB, HQ⟩ := hrel
    by_cases hlt : k < n
    · have hlz : (k : Int) < (n : Int) := by omega
      have hc := hrow.out wr HB.out k hlt
      have hq := HQ.out
      rw [hstep.out k hlt] at hq
      generalize xs[k]! = x at hc hq
      obtain ⟨op, nn⟩ := x
      obtain ⟨f0, f1⟩ := hc
      simp only at f0 f1
      have HCx := Lib.hid (HC.out op nn)
      generalize decide (NV.ok n ⟨op, nn⟩) = ok at *
      have HB1 := Lib.hid (HB.out.alloc HB.out.size (.cells #[.int .i64 op, .int .i64 nn] 120))
      clear hrow hstep HQ HC
      have HQ2 := Lib.hid hq
      clear hq
      go_wp2_with fail
      refine (HCx.out _).mono ?_
      rintro e w1 ⟨rfl, hb1⟩
      have HB2 := Lib.hid (HB1.out.trans (hb1.mono HB1.out.size))
      clear hb1 f0 f1
      cases ok
      · have hq := HQ2.out
        rw [Bool.false_and] at hq
        subst hq
        go_wp2
        all_goals go_returns
        all_goals exact ⟨rfl, HB2.out⟩
      · have hq := HQ2.out
        rw [Bool.true_and] at hq
        have HQ3 := Lib.hid hq
        clear hq
        go_wp2
        go_roundg (n - (k + 1))
        case measure => omega
        case rel => exact ⟨k + 1, by omega, by omega, by go_num, HB2.out, HQ3.out⟩
    · have hlz : ¬ (k : Int) < (n : Int) := by omega
      obtain rfl : k = n := by omega
      have hq := HQ.out
      rw [HEnd.out] at hq
      subst hq
      clear hrow hstep HQ
      go_wp2
      all_goals go_returns
      all_goals exact ⟨rfl, HB.out⟩
set_option maxHeartbeats 2000000 in
theorem pright_nil (p : Option Addr) (cap : Nat) (w : World) : Calls Try.prog 96 #[.slice p 0 cap] w (Ret (.bool (rightC [])) w) := by
  have h : rightC [] = true := rfl
  rw [h]
  go_enter Try.func96, Try.ntmps96
  go_wp2
  refine wp_loop_rounds 1 ?_
  rw [rounds_succ]
  go_wp2
  go_returns
  exact ⟨rfl, Below.refl _ _⟩
theorem pright_any (xs : List NV) (v : Value) (w : World) (hl : xs.length ≤ 900000) (h : RC.Is w v xs) : Calls Try.prog 96 #[v] w (Ret (.bool (rightC xs)) w) := by
  rcases h with ⟨rfl, p, cap, rfl, _⟩ | ⟨_, b, off, cap, rfl, hb, hr⟩
  · exact pright_nil p cap w
  · exact pright_row xs b off cap w hl hb hr
end Go.Proofs.Ytacmdkbmakfdkaa
