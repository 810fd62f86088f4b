/- the document's follows: does an operator's scope fit behind that of the one ahead of it? -/
import Derived.Test.YtjaahmgokiobjaaGreatG12
import Derived.BigQuiet
import Derived.Test.YtjaahmgokiobjaaGreatG05
import Derived.Deep.CutRange
import Derived.Test.YtjaahmgokiobjaaGreatG01
import Derived.Test.YtjaahmgokiobjaaGreatG08
namespace Go.Proofs.YtjaahmgokiobjaaGreat
open Go.RowKit
set_option linter.unusedVariables false
set_option linter.unusedSimpArgs false

def scopeG (g : GV) (n : Nat) : Int := g.nodes[n]!.scope
/-- the scopes around that of the operator ahead -/
def wasG (g : GV) (n : Nat) : List Int := chainL g.parent 10 (scopeG g (n - 1))
def followsG (g : GV) (n : Nat) : Bool :=
  if n = 0 then decide (scopeG g 0 = 0)
  else (wasG g n).any (fun x => decide (x = scopeG g n)) || ((wasG g n).any (fun x => decide (x = g.parent[(scopeG g n).toNat]!)) && !(List.range n).any (fun j => decide (scopeG g j = scopeG g n)))
theorem any_take {l : List Int} {k : Nat} (f : Int → Bool) (hk : k < l.length) : (l.take (k + 1)).any f = ((l.take k).any f || f l[k]!) := by
  rw [take_getA l k hk, List.any_append]
  simp
theorem any_range {k : Nat} (f : Nat → Bool) : (List.range (k + 1)).any f = ((List.range k).any f || f k) := by
  rw [List.range_succ, List.any_append]
  simp
set_option maxRecDepth 100000 in
set_option maxHeartbeats 16000000 in
theorem rfollows_any (g : GV) (v : Value) (n : Nat) (w : World) (h : IsG w v g) (hl : g.parent.length ≤ 900000) (hn : n < g.nodes.length) (hN : g.nodes.length ≤ 900000) (hs : scopeOk g n) :
    Calls Tryz.prog 51 #[v, .int .i64 (n : Int)] w (Ret (.bool (followsG g n)) w) := by
  have HC := Lib.hid (fun s W (hW : Below w.heap.size w W) => rchain_any g v s W (h.below hW) hl)
  obtain ⟨p1, c1, p2, c2, p3, c3, p4, c4, rfl, G⟩ := h.go
  have HG := Lib.hid G
  clear h G
  obtain ⟨s, hsn⟩ : ∃ s : Nat, scopeG g n = (s : Int) := ⟨(scopeG g n).toNat, by have := hs.1; unfold scopeG; omega⟩
  have hsl : (s : Int) < (g.parent.length : Int) := by have := hs.2; unfold scopeG at hsn; omega
  have hnl : (n : Int) < (g.nodes.length : Int) := by omega
  have HS := Lib.hid hsn
  have HNode : Hid (∀ j, j < g.nodes.length → ∃ b off, p3 = some ⟨b, off, none⟩ ∧ ∀ W, Below w.heap.size w W → W.cell? ⟨b, off + j * 4 + 1, none⟩ = some (.int .i64 (scopeG g j))) := fun j hj => by
    obtain ⟨b, off, p, c, e, _, hc⟩ := HG.out.nod j hj
    exact ⟨b, off, e, fun W hW => (hc W hW).2.1⟩
  obtain ⟨b1, off1, hp1, _⟩ := HG.out.par w (Below.refl _ _) s (by omega)
  subst hp1
  have HPar : Hid (∀ W, Below w.heap.size w W → W.cell? ⟨b1, off1 + s, none⟩ = some (.int .i64 g.parent[s]!)) := fun W hW => by
    obtain ⟨b', off', e, hc'⟩ := HG.out.par W hW s (by omega)
    simp only [Option.some.injEq, Addr.mk.injEq] at e
    obtain ⟨rfl, rfl, _⟩ := e
    exact hc'
  obtain ⟨b3, off3, hp3, _⟩ := HNode.out n hn
  subst hp3
  have HNd : Hid (∀ j, j < g.nodes.length → ∀ W, Below w.heap.size w W → W.cell? ⟨b3, off3 + j * 4 + 1, none⟩ = some (.int .i64 (scopeG g j))) := fun j hj W hW => by
    obtain ⟨b', off', e, hc'⟩ := HNode.out j hj
    simp only [Option.some.injEq, Addr.mk.injEq] at e
    obtain ⟨rfl, rfl, _⟩ := e
    exact hc' W hW
  have HF0 : Hid (n = 0 → followsG g n = decide (scopeG g n = 0)) := fun e => by subst e; rfl
  have HF1 : Hid (¬ n = 0 → followsG g n = ((wasG g n).any (fun x => decide (x = (s : Int))) || ((wasG g n).any (fun x => decide (x = g.parent[s]!)) && !(List.range n).any (fun j => decide (scopeG g j = (s : Int)))))) := fun e => by
    show followsG g n = _
    unfold followsG
    rw [if_neg e, hsn]
    rfl
  clear HG HNode hs
  generalize followsG g n = F at *
  generalize g.parent[s]! = ps at *
  generalize g.parent.length = n1 at *
  generalize g.bound.length = n2 at *
  generalize g.nodes.length = n3 at *
  generalize g.edges.length = n4 at *
  have HX0 : Hid (rowOf (w.alloc (.cells #[.slice (some ⟨b1, off1, none⟩) n1 c1, .slice p2 n2 c2, .slice (some ⟨b3, off3, none⟩) n3 c3, .slice p4 n4 c4] 26)) w.heap.size = some #[.slice (some ⟨b1, off1, none⟩) n1 c1, .slice p2 n2 c2, .slice (some ⟨b3, off3, none⟩) n3 c3, .slice p4 n4 c4]) := row_new rfl
  have HB0 := Lib.hid ((Below.refl w.heap.size w).alloc (Nat.le_refl _) (.cells #[.slice (some ⟨b1, off1, none⟩) n1 c1, .slice p2 n2 c2, .slice (some ⟨b3, off3, none⟩) n3 c3, .slice p4 n4 c4] 26))
  have e0 := HNd.out n hn _ HB0.out
  rw [hsn] at e0
  clear hsn
  by_cases h0 : n = 0
  · have hq := HF0.out h0
    rw [HS.out] at hq
    subst hq
    subst h0
    go_enter Tryz.func51, Tryz.ntmps51
    go_wp2
    go_returns
    refine ⟨ret_bool ?_, HB0.out⟩
    rw [Bool.eq_iff_iff]
    simp
  · obtain ⟨m, hm⟩ : ∃ m, n = m + 1 := ⟨n - 1, by omega⟩
    have HF2 := Lib.hid (HF1.out h0)
    have hz : ((n : Int) == 0) = false := by simp; omega
    have hwr : IntKind.i64.wrap ((n : Int) - 1) = (m : Int) := by rw [IntKind.wrap_i64]; omega
    have hmz : (m : Int) < (n3 : Int) := by omega
    clear HF0 HF1 h0
    have HW : Hid (wasG g n = chainL g.parent 10 (scopeG g m)) := by rw [hm]; rfl
    have hmn : m < n3 := by omega
    have HM := Lib.hid hm
    clear hm
    generalize wasG g n = L at *
    go_enter Tryz.func51, Tryz.ntmps51
    go_wp2_with fail
    refine gen_world (fun W2 => Hid (Below w.heap.size w W2) ∧ Hid (rowOf W2 w.heap.size = some #[.slice (some ⟨b1, off1, none⟩) n1 c1, .slice p2 n2 c2, .slice (some ⟨b3, off3, none⟩) n3 c3, .slice p4 n4 c4])) ⟨HB0, HX0⟩ ?_
    clear HB0 HX0 e0
    rintro w1 ⟨HB, HX⟩
    have HK : Hid (∀ W, Below w1.heap.size w1 W → W.cell? ⟨w.heap.size, 0, none⟩ = some (.slice (some ⟨b1, off1, none⟩) n1 c1) ∧ W.cell? ⟨w.heap.size, 1, none⟩ = some (.slice p2 n2 c2) ∧ W.cell? ⟨w.heap.size, 2, none⟩ = some (.slice (some ⟨b3, off3, none⟩) n3 c3) ∧ W.cell? ⟨w.heap.size, 3, none⟩ = some (.slice p4 n4 c4) ∧ W.cell? ⟨b3, off3 + m * 4 + 1, none⟩ = some (.int .i64 (scopeG g m))) := fun W hW => by
      have r := rowOf_below HX.out hW (rowOf_lt HX.out)
      exact ⟨rowOf_cell r 0, rowOf_cell r 1, rowOf_cell r 2, rowOf_cell r 3, HNd.out m hmn W (bstep HB.out hW HB.out.size)⟩
    have HC1 : Hid (∀ W, Below w1.heap.size w1 W → Calls Tryz.prog 25 #[.agg #[.slice (some ⟨b1, off1, none⟩) n1 c1, .slice p2 n2 c2, .slice (some ⟨b3, off3, none⟩) n3 c3, .slice p4 n4 c4], .int .i64 (scopeG g m)] W (RN.Made L W)) := fun W hW => by rw [HW.out]; exact HC.out _ W (bstep HB.out hW HB.out.size)
    obtain ⟨k0, k1, k2, k3, k4⟩ := HK.out w1 (Below.refl _ _)
    generalize scopeG g m = sm' at *
    go_cut [6] from 20 to 28 (fun v6 wx => Hid (Below w1.heap.size w1 wx) ∧ Hid (RN.Is wx v6 L))
    case first =>
      have hc : Below w1.heap.size w1 w1.drew := (Below.refl _ _).drew
      go_region_held_law (fun w' => w'.cell? ⟨w.heap.size, 0, none⟩ = some (.slice (some ⟨b1, off1, none⟩) n1 c1) ∧ w'.cell? ⟨w.heap.size, 1, none⟩ = some (.slice p2 n2 c2) ∧ w'.cell? ⟨w.heap.size, 2, none⟩ = some (.slice (some ⟨b3, off3, none⟩) n3 c3) ∧ w'.cell? ⟨w.heap.size, 3, none⟩ = some (.slice p4 n4 c4) ∧ w'.cell? ⟨b3, off3 + m * 4 + 1, none⟩ = some (.int .i64 sm')) (first | exact HK.out _ hc | go_keep) (first
        | (go_at_call 25; (with_reducible refine Calls.mono (HC1.out _ hc) ?_); rintro e wn ⟨vn, rfl, hO, hb⟩; have hI := hO.is; clear hO; replace hc := bcall hc hb hc.size; clear hb))
      all_goals
        try simp only [List.getElem_toArray, List.getElem_cons_succ, List.getElem_cons_zero, Act.put, List.setIfInBounds_toArray, List.set_cons_zero, List.set_cons_succ]
        go_wp2_with fail
        go_meet
        case rel => exact ⟨hc, hI⟩
    case rest =>
      obtain ⟨HB2, HI⟩ := hcut
      obtain ⟨p6, c6, hv6, ho⟩ := RowKind.Is.opened HI.out
      subst hv6
      have HL : Hid (∀ W, Below wc.heap.size wc W → ∀ j, j < L.length → ∃ b off, p6 = some ⟨b, off, none⟩ ∧ W.cell? ⟨b, off + j, none⟩ = some (.int .i64 L[j]!)) := fun W hW j hj => by
        obtain ⟨b, off, e, hb, hr⟩ := ho j hj
        exact ⟨b, off, e, atN (hr.below hW hb) j hj⟩
      have HBc := Lib.hid (HB.out.trans (HB2.out.mono HB.out.size))
      have HXc := Lib.hid (rowOf_below HX.out HB2.out (rowOf_lt HX.out))
      have hL10 : L.length ≤ 10 := by rw [HW.out]; exact chainL_len _ _ _
      have HStepS := Lib.hid (fun k (hk : k < L.length) => any_take (fun x => decide (x = (s : Int))) hk)
      have HStepP := Lib.hid (fun k (hk : k < L.length) => any_take (fun x => decide (x = ps)) hk)
      have HLs : Hid (L.take L.length = L) := List.take_length
      have HL0 : Hid (L.take 0 = []) := rfl
      generalize hll : L.length = ll at *
      have HLn := Lib.hid hll
      clear ho HI HK HC1 HC HW k0 k1 k2 k3 k4 HX hll
      go_wp2_with fail
      go_loopg [8, 7] ll (fun gg i u wr => ∃ k : Nat, k ≤ ll ∧ ll - k ≤ gg ∧ i = .int .i64 (k : Int) ∧ u = .bool ((L.take k).any (fun x => decide (x = ps))) ∧ Hid ((L.take k).any (fun x => decide (x = (s : Int))) = false) ∧ Hid (Below wc.heap.size wc wr))
      case atStart => exact ⟨0, Nat.zero_le _, by omega, rfl, rfl, rfl, Below.refl _ _⟩
      case round =>
        obtain ⟨k, hk, hg, rfl, rfl, HQ, HBr⟩ := hrel
        by_cases hlt : k < ll
        · have hlz : (k : Int) < (ll : Int) := by omega
          obtain ⟨b6, o6, rfl, e6⟩ := HL.out wr HBr.out k hlt
          have hS := HStepS.out k hlt
          have hP := HStepP.out k hlt
          rw [HQ.out, Bool.false_or] at hS
          have HEnd : Hid (decide (L[k]! = (s : Int)) = true → F = true) := fun e => by
            rw [HF2.out, Bool.or_eq_true]
            refine .inl ?_
            have hkl : k < L.length := by rw [HLn.out]; exact hlt
            exact List.any_eq_true.2 ⟨L[k]!, by rw [getElem!_pos L k hkl]; exact List.getElem_mem hkl, e⟩
          have d0 := bx_cell (rowOf_cell (rowOf_below HXc.out HBr.out (rowOf_lt HXc.out)) 0 : wr.cell? ⟨w.heap.size, 0, none⟩ = some (.slice (some ⟨b1, off1, none⟩) n1 c1))
          have d1 := bx_cell (HPar.out wr (HBc.out.trans (HBr.out.mono HBc.out.size)))
          have d2 := bx_cell e6
          generalize L[k]! = y at *
          by_cases hys : y = (s : Int)
          · have hq := HEnd.out (decide_eq_true hys)
            subst hq
            have hyb : (y == (s : Int)) = true := by simpa using hys
            clear d0 d1 d2 hS hP HEnd HF2
            go_wp2
            go_returns
            exact ⟨rfl, HBc.out.trans (HBr.out.mono HBc.out.size)⟩
          · have hyb : (y == (s : Int)) = false := by simpa using hys
            rw [decide_eq_false hys] at hS
            have HS2 := Lib.hid hS
            have HP2 := Lib.hid hP
            generalize (L.take k).any (fun x => decide (x = ps)) = u0 at *
            clear hS hP HEnd
            go_wp2_with fail
            refine wp_region_bx (by kernel_rfl) (by kernel_rfl) ?_
            cases u0
            all_goals
              repeat (first | go_big_quiet_step (fail) | quiet_step (fail))
              refine wpQuiet_nil ?_
              intro _ hw'
              obtain ⟨g9, hw''⟩ := hw'
              subst hw''
              have hb9 := g9.h
              generalize g9.w = w9 at hb9 ⊢
              clear g9
              have HB9 := Lib.hid (bstep HBr.out hb9 HBr.out.size)
              clear hb9 d0 d1 d2
              go_wp2_with fail
              go_roundg (ll - (k + 1))
              case measure => omega
              case rel => exact ⟨k + 1, by omega, by omega, by go_num, by rw [HP2.out]; simp [Bool.beq_eq_decide_eq], HS2.out, HB9.out⟩
        · have hlz : ¬ (k : Int) < (ll : Int) := by omega
          obtain rfl : ll = k := by omega
          have hS := HQ.out
          rw [HLs.out] at hS ⊢
          have hq := HF2.out
          rw [hS, Bool.false_or] at hq
          have HBw := Lib.hid (HBc.out.trans (HBr.out.mono HBc.out.size))
          have hX := rowOf_below HXc.out HBr.out (rowOf_lt HXc.out)
          have HXr := Lib.hid hX
          generalize L.any (fun x => decide (x = ps)) = u0 at *
          clear hS HQ HStepS HStepP HL HF2 HPar hX HBr HXc HBc
          cases u0
          · rw [Bool.false_and] at hq
            subst hq
            go_wp2
            go_returns
            exact ⟨rfl, HBw.out⟩
          · rw [Bool.true_and] at hq
            have HQ := Lib.hid hq
            have HRs := Lib.hid (fun k => any_range (k := k) (fun j => decide (scopeG g j = (s : Int))))
            have hnn : n ≤ 900000 := by omega
            clear hq
            obtain ⟨wo, rfl⟩ : ∃ wo : World, wo = wr := ⟨_, rfl⟩
            go_wp2_with fail
            go_loopg [9] n (fun gg i wr2 => ∃ j : Nat, j ≤ n ∧ n - j ≤ gg ∧ i = .int .i64 (j : Int) ∧ Hid ((List.range j).any (fun j => decide (scopeG g j = (s : Int))) = false) ∧ Hid (Below wo.heap.size wo wr2))
            case atStart => exact ⟨0, Nat.zero_le _, by omega, rfl, rfl, Below.refl _ _⟩
            case round =>
              obtain ⟨j, hj, hg2, rfl, HA, HBj⟩ := hrel
              by_cases hjl : j < n
              · have hjz : (j : Int) < (n : Int) := by omega
                have hjz3 : (j : Int) < (n3 : Int) := by omega
                have HBj2 := Lib.hid (HBw.out.trans (HBj.out.mono HBw.out.size))
                have e2 := HNd.out j (by omega) wr HBj2.out
                have d2 : wr.cell? ⟨w.heap.size, 2, none⟩ = some (.slice (some ⟨b3, off3, none⟩) n3 c3) := rowOf_cell (rowOf_below HXr.out HBj.out (rowOf_lt HXr.out)) 2
                have hst := HRs.out j
                rw [HA.out, Bool.false_or] at hst
                have HBad : Hid (scopeG g j = (s : Int) → F = false) := fun e => by
                  rw [HQ.out, Bool.not_eq_false', List.any_eq_true]
                  exact ⟨j, List.mem_range.2 hjl, decide_eq_true e⟩
                generalize scopeG g j = y at *
                by_cases hys : y = (s : Int)
                · have hq := HBad.out hys
                  subst hq
                  have hyb : (y == (s : Int)) = true := by simpa using hys
                  clear hst HBad HQ
                  go_wp2
                  go_returns
                  exact ⟨rfl, HBj2.out⟩
                · have hyb : (y == (s : Int)) = false := by simpa using hys
                  rw [decide_eq_false hys] at hst
                  have HA2 := Lib.hid hst
                  clear hst HBad
                  go_wp2
                  go_roundg (n - (j + 1))
                  case measure => omega
                  case rel => exact ⟨j + 1, by omega, by omega, by go_num, HA2.out, HBj.out⟩
              · have hjz : ¬ (j : Int) < (n : Int) := by omega
                obtain rfl : n = j := by omega
                have hq := HQ.out
                rw [HA.out] at hq
                have hq2 : F = true := hq
                subst hq2
                clear hq HQ HA
                go_wp2
                go_returns
                exact ⟨rfl, HBw.out.trans (HBj.out.mono HBw.out.size)⟩
end Go.Proofs.YtjaahmgokiobjaaGreat
/- instructions (NV), rows of them (RC); right programs (rightC); the document's Right -/
namespace Go.Proofs.YtjaahmgokiobjaaGreat
open Go.RowKit
set_option linter.unusedVariables false
set_option linter.unusedSimpArgs false

def rightC (p : List NV) : Bool := (p.all fun x => decide (x.ok p.length)) && decide (p.length ≤ 64)
theorem all_drop {p : List NV} {len k : Nat} (h : k < p.length) : ((p.drop k).all fun x => decide (x.ok len)) = (decide (p[k]!.ok len) && (p.drop (k + 1)).all fun x => decide (x.ok len)) := by
  rw [List.drop_eq_getElem_cons h, List.all_cons, getElem!_pos p k h]
set_option maxRecDepth 100000 in
set_option maxHeartbeats 8000000 in
theorem rright_row (xs : List NV) (b off cap : Nat) (w : World) (hl : xs.length ≤ 900000) (hb : b < w.heap.size) (hr : RC.Row w b off xs) :
    Calls Tryz.prog 52 #[.slice (some ⟨b, off, none⟩) xs.length cap] w (Ret (.bool (rightC xs)) w) := by
  have hrow : Hid (∀ (W : World), Below w.heap.size w W → ∀ j, j < xs.length → _) := fun W hW j hj => atC7 (hr.below hW hb) j hj
  have hstep := Lib.hid (fun j (hj : j < xs.length) => all_drop (len := xs.length) hj)
  have hst : (((xs.drop 0).all fun x => decide (x.ok xs.length)) && decide (xs.length ≤ 64)) = rightC xs := rfl
  have hend : ((xs.drop xs.length).all fun x => decide (x.ok xs.length)) = true := by rw [List.drop_length]; rfl
  have HSt := Lib.hid hst; have HEnd := Lib.hid hend
  clear hr hst hend
  generalize rightC xs = res at *
  generalize hn : xs.length = n at *
  have HN := Lib.hid hn
  clear hn
  go_enter Tryz.func52, Tryz.ntmps52
  go_wp2
  go_loopg [3] n (fun gg i wr => ∃ k : Nat, k ≤ n ∧ n - k ≤ gg ∧ i = .int .i64 k ∧ Hid (Below w.heap.size w wr) ∧ Hid ((((xs.drop k).all fun x => decide (x.ok n)) && decide (n ≤ 64)) = res))
  case atStart => exact ⟨0, Nat.zero_le _, by omega, rfl, (Below.refl _ _), HSt.out⟩
  case round =>
    obtain ⟨k, hkn, hg, rfl, HB, HC⟩ := hrel
    by_cases hlt : k < n
    · have hlz : (k : Int) < (n : Int) := by omega
      have hc := fun m => hrow.out (wr.drewN m) (below_drewN HB.out m) k hlt
      have hq := HC.out
      rw [hstep.out k hlt] at hq
      generalize xs[k]! = x at hc hq
      obtain ⟨op, nn⟩ := x
      have f0 := fun m => (hc m).1; have f1 := fun m => (hc m).2
      simp only at f0 f1
      have HBd := fun m => below_drewN HB.out m
      clear hc hrow hstep HC
      by_cases hok : NV.ok n ⟨op, nn⟩
      · rw [decide_eq_true hok, Bool.true_and] at hq
        have HQ := Lib.hid hq
        clear hq
        have h1 : 1 ≤ op := hok.1
        have h2 : op ≤ 16 := hok.2.1
        have h3 : (op = 14 ∨ op = 15) → 0 ≤ nn ∧ nn ≤ (n : Int) := hok.2.2.1
        have h4 : (op ≠ 1 ∧ op ≠ 14 ∧ op ≠ 15) → nn = 0 := hok.2.2.2
        clear hok
        by_cases g14 : op = 14
        · subst g14
          obtain ⟨k0, k1⟩ := h3 (by omega)
          clear h3 h4
          go_wp2_with fail
          go_quiet (fail)
          go_wp2
          go_roundg (n - (k + 1))
          case measure => omega
          case rel => exact ⟨k + 1, by omega, by omega, by go_num, HBd _, HQ.out⟩
        by_cases g15 : op = 15
        · subst g15
          obtain ⟨k0, k1⟩ := h3 (by omega)
          clear h3 h4 g14
          go_wp2_with fail
          go_quiet (fail)
          go_wp2
          go_roundg (n - (k + 1))
          case measure => omega
          case rel => exact ⟨k + 1, by omega, by omega, by go_num, HBd _, HQ.out⟩
        have b14 : (op == 14) = false := by simpa using g14
        have b15 : (op == 15) = false := by simpa using g15
        have c14 : (op != 14) = true := by simpa using g14
        have c15 : (op != 15) = true := by simpa using g15
        by_cases g1 : op = 1
        · subst g1
          clear h3 h4 g14 g15
          go_wp2_with fail
          go_quiet (fail)
          go_wp2
          go_roundg (n - (k + 1))
          case measure => omega
          case rel => exact ⟨k + 1, by omega, by omega, by go_num, HBd _, HQ.out⟩
        · have c1 : (op != 1) = true := by simpa using g1
          have h5 := h4 ⟨g1, g14, g15⟩
          subst h5
          clear h3 h4 g14 g15 g1
          go_wp2_with fail
          go_quiet (fail)
          go_wp2
          go_roundg (n - (k + 1))
          case measure => omega
          case rel => exact ⟨k + 1, by omega, by omega, by go_num, HBd _, HQ.out⟩
      · rw [decide_eq_false hok, Bool.false_and, Bool.false_and] at hq
        subst hq
        have hbad : op < 1 ∨ 16 < op ∨ ((op = 14 ∨ op = 15) ∧ (nn < 0 ∨ (n : Int) < nn)) ∨ ((op ≠ 1 ∧ op ≠ 14 ∧ op ≠ 15) ∧ nn ≠ 0) := by
          unfold NV.ok at hok
          simp only at hok
          omega
        clear hok
        by_cases z1 : op < 1
        · clear hbad
          go_wp2_with fail
          go_quiet (fail)
          go_wp2
          go_returns
          exact ⟨rfl, HBd _⟩
        by_cases z2 : op > 16
        · clear hbad
          go_wp2_with fail
          go_quiet (fail)
          go_wp2
          go_returns
          exact ⟨rfl, HBd _⟩
        by_cases g14 : op = 14
        · subst g14
          have hbad : nn < 0 ∨ (0 ≤ nn ∧ nn > (n : Int)) := by omega
          rcases hbad with hbad | ⟨hb1, hbad⟩
          all_goals
            go_wp2_with fail
            go_quiet (fail)
            go_wp2
            go_returns
            exact ⟨rfl, HBd _⟩
        by_cases g15 : op = 15
        · subst g15
          have hbad : nn < 0 ∨ (0 ≤ nn ∧ nn > (n : Int)) := by omega
          clear g14
          rcases hbad with hbad | ⟨hb1, hbad⟩
          all_goals
            go_wp2_with fail
            go_quiet (fail)
            go_wp2
            go_returns
            exact ⟨rfl, HBd _⟩
        have b14 : (op == 14) = false := by simpa using g14
        have b15 : (op == 15) = false := by simpa using g15
        have c14 : (op != 14) = true := by simpa using g14
        have c15 : (op != 15) = true := by simpa using g15
        have c1 : (op != 1) = true := by simp; omega
        have cn : (nn != 0) = true := by simp; omega
        clear hbad g14 g15
        go_wp2_with fail
        go_quiet (fail)
        go_wp2
        go_returns
        exact ⟨rfl, HBd _⟩
    · have hlz : ¬ (k : Int) < (n : Int) := by omega
      obtain rfl : k = n := by omega
      have hq := HC.out
      rw [HEnd.out, Bool.true_and] at hq
      clear HC hrow hstep
      by_cases h64 : k ≤ 64
      · have hz : (k : Int) ≤ 64 := by omega
        rw [decide_eq_true h64] at hq
        subst hq
        go_wp2
        go_returns
        exact ⟨rfl, HB.out⟩
      · have hz : ¬ (k : Int) ≤ 64 := by omega
        rw [decide_eq_false h64] at hq
        subst hq
        go_wp2
        go_returns
        exact ⟨by first | rfl | (apply ret_bool; simp; omega), HB.out⟩
set_option maxHeartbeats 2000000 in
theorem rright_nil (p : Option Addr) (cap : Nat) (w : World) : Calls Tryz.prog 52 #[.slice p 0 cap] w (Ret (.bool (rightC [])) w) := by
  have h : rightC [] = true := rfl
  rw [h]
  go_enter Tryz.func52, Tryz.ntmps52
  go_wp2
  refine wp_loop_rounds 1 ?_
  rw [rounds_succ]
  go_wp2
  go_returns
  exact ⟨rfl, Below.refl _ _⟩
theorem rright_any (xs : List NV) (v : Value) (w : World) (hl : xs.length ≤ 900000) (h : RC.Is w v xs) : Calls Tryz.prog 52 #[v] w (Ret (.bool (rightC xs)) w) := by
  rcases h with ⟨rfl, p, cap, rfl, _⟩ | ⟨_, b, off, cap, rfl, hb, hr⟩
  · exact rright_nil p cap w
  · exact rright_row xs b off cap w hl hb hr
end Go.Proofs.YtjaahmgokiobjaaGreat
/- plain: an operator's error, as the document finds it -/
namespace Go.Proofs.YtjaahmgokiobjaaGreat
open Go.RowKit
set_option linter.unusedVariables false
set_option linter.unusedSimpArgs false

def nodeV (k s : Int) (n1 : Nat) (fo : Bool) (ar : Int) (rt : Bool) (pl : Nat) : Int :=
  if k < 1 ∨ 15 < k then 1 else if s < 0 ∨ (n1 : Int) ≤ s then 6
  else if (s = 0 ∧ 10 ≤ k ∧ k ≤ 12) ∨ (0 < s ∧ (k = 1 ∨ k = 15)) then 6 else if fo = false then 6
  else if (k = 4 ∧ ar < 1) ∨ (k ≠ 4 ∧ k ≠ 3 ∧ ar ≠ 0) then 1 else if (k = 2 ∧ rt = false) ∨ (k ≠ 2 ∧ 0 < pl) then 13 else 0
def nodeE (g : GV) (n : Nat) : Int := nodeV g.nodes[n]!.kind g.nodes[n]!.scope g.parent.length (followsG g n) g.nodes[n]!.arg (rightC g.nodes[n]!.prog) g.nodes[n]!.prog.length
end Go.Proofs.YtjaahmgokiobjaaGreat
