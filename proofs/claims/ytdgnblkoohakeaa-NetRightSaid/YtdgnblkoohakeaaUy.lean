/- net.copied -/
import Derived.Test.YtdgnblkoohakeaaUx
import Derived.Test.YtdgnblkoohakeaaUm
import Derived.Deep.CutRange
namespace Go.Proofs.Ytdgnblkoohakeaa
open Go.RowKit
set_option linter.unusedVariables false
set_option linter.unusedSimpArgs false

/-- the first k are copied -/
structure CopS (w0 : World) (g cap : Nat) (xs0 : List BW) (n : List BV) (k : Nat) (done : List (BW × BV)) (wr : World) : Prop where
  len : done.length = k
  snd : done.map Prod.snd = n.take k
  own : RB4.Own w0.heap.size wr (.slice (some ⟨g, 0, none⟩) xs0.length cap) (done.map Prod.fst ++ xs0.drop k)
  box : ∀ p ∈ done, okP w0.heap.size wr p
  apart : done.Pairwise apartP
  below : Below w0.heap.size w0 wr
theorem own_cell {B : Nat} {w : World} {g n cap : Nat} {xs : List BW} (h : RB4.Own B w (.slice (some ⟨g, 0, none⟩) n cap) xs) {k : Nat} (hk : k < xs.length) :
    w.cell? ⟨g, k * 4 + 3, none⟩ = some (.slice xs[k]!.p xs[k]!.n xs[k]!.c) ∧ w.frozen? ⟨g, k * 4 + 3, none⟩ = false := by
  obtain ⟨cur, hg, hn, hB, hc, hm, hs, ht⟩ := h.row
  have h1 := RB4.cells_get xs k hk 3 (by decide)
  have hk4 : RB4.k = 4 := rfl
  rw [← ht, List.getElem?_take, hk4, if_pos (by omega), Array.getElem?_toList] at h1
  refine ⟨?_, by unfold World.frozen?; simp [hg]⟩
  unfold World.cell?
  simp only [hg]
  rw [h1]
  rfl
theorem CopS.raw {w0 : World} {g cap : Nat} {xs0 : List BW} {n : List BV} {k : Nat} {done : List (BW × BV)} {wr : World} (h : CopS w0 g cap xs0 n k done wr) (hk : k < xs0.length) : (done.map Prod.fst ++ xs0.drop k)[k]! = xs0[k]! ∧ k < (done.map Prod.fst ++ xs0.drop k).length := by
  have hl : k < (done.map Prod.fst ++ xs0.drop k).length := by rw [List.length_append, List.length_map, h.len, List.length_drop]; omega
  refine ⟨?_, hl⟩
  rw [getElem!_pos _ k hl, getElem!_pos xs0 k hk, List.getElem_append_right (by rw [List.length_map, h.len]; exact Nat.le_refl _)]
  simp [h.len]
theorem CopS.step {w0 : World} {g cap : Nat} {xs0 : List BW} {n : List BV} {k : Nat} {done : List (BW × BV)} {wr W : World} (h : CopS w0 g cap xs0 n k done wr) (hk : k < xs0.length) (hkn : k < n.length) (hx : isBx w0 xs0[k]! n[k]!) (hW : Below wr.heap.size wr W) {p : Option Addr} {c : Nat} (hv : RM.Own wr.heap.size W (.slice p (n[k]!).l.length c) (n[k]!).l) :
    CopS w0 g cap xs0 n (k + 1) (done ++ [(⟨xs0[k]!.e, xs0[k]!.f, xs0[k]!.t, p, (n[k]!).l.length, c⟩, n[k]!)]) (W.setCell ⟨g, k * 4 + 3, none⟩ (.slice p (n[k]!).l.length c)) := by
  have hO := h.own.below hW
  obtain ⟨hr, hl⟩ := h.raw hk
  obtain ⟨hO2, hG⟩ := Own.setL hO hl p (n[k]!).l.length c
  rw [hr] at hO2
  have hw0 : w0.heap.size ≤ wr.heap.size := h.below.size
  have hv2 : RM.Own w0.heap.size W (.slice p (n[k]!).l.length c) (n[k]!).l := hv.mono hw0
  refine ⟨by simp [h.len], ?_, ?_, ?_, ?_, ?_⟩
  · rw [List.map_append, h.snd, List.take_succ_eq_append_getElem hkn, getElem!_pos n k hkn]; rfl
  · have e : (done.map Prod.fst ++ xs0.drop k).set k ⟨xs0[k]!.e, xs0[k]!.f, xs0[k]!.t, p, (n[k]!).l.length, c⟩ = (done ++ [((⟨xs0[k]!.e, xs0[k]!.f, xs0[k]!.t, p, (n[k]!).l.length, c⟩ : BW), n[k]!)]).map Prod.fst ++ xs0.drop (k + 1) := by
      rw [List.set_append_right _ _ (by rw [List.length_map, h.len]; exact Nat.le_refl _), List.length_map, h.len, Nat.sub_self, List.drop_eq_getElem_cons hk]
      simp only [List.set_cons_zero, List.map_append, List.map_cons, List.map_nil, List.append_assoc, List.cons_append, List.nil_append]
    rw [← e]
    exact hO2
  · intro q hq
    rcases List.mem_append.1 hq with hq | hq
    · exact ((h.box q hq).below hW).grown hO hG
    · rw [List.mem_singleton] at hq
      subst hq
      exact ⟨hx.e, hx.f, hx.t, rfl, own_other hv2 hO hG⟩
  · rw [List.pairwise_append]
    refine ⟨h.apart, List.pairwise_singleton _ _, fun q hq q' hq' => ?_⟩
    rw [List.mem_singleton] at hq'
    subst hq'
    intro b h1 h2
    have l1 := ((h.box q hq).l.lt b h1).2
    have l2 := (hv.lt b h2).1
    omega
  · have hgl := hO.lt g rfl
    exact ⟨hG.os.trans (hW.os.trans h.below.os), hG.tape.trans (hW.tape.trans h.below.tape), hG.output.trans (hW.output.trans h.below.output), Nat.le_trans hw0 (Nat.le_trans hW.size hG.size), fun b hb => (hG.block b (by have := hW.size; omega) (fun e => by have := Option.some.inj e; omega)).trans ((hW.block b (by omega)).trans (h.below.block b hb))⟩
set_option maxRecDepth 100000 in
set_option maxHeartbeats 16000000 in
theorem pcopied_any (n : List BV) (v : Value) (w : World) (hs : SmallN n) (h : IsBs w v n) : Calls Try.prog 19 #[v] w (fun e w' => ∃ u ps, e = .returned u ∧ ps.map Prod.snd = n ∧ DeepB w.heap.size w' u ps ∧ Below w.heap.size w w') := by
  obtain ⟨xs0, hx0, ha⟩ := h
  have hn1 : n.length ≤ 1000 := hs.1
  have hlx : xs0.length = n.length := ha.1
  have HCl := Lib.hid (pcloneB_any xs0 v w (by omega) hx0)
  have HCm : Hid (∀ k, k < n.length → ∀ W, Below w.heap.size w W → Calls Try.prog 29 #[.slice xs0[k]!.p xs0[k]!.n xs0[k]!.c] W (RM.Made (n[k]!).l W)) := fun k hk W hW => pcloneM_any (n[k]!).l _ W (by have := hs.2 n[k]! (by rw [getElem!_pos n k hk]; exact List.getElem_mem hk); omega) ((ha.2 k hk).l.below hW)
  have HA : Hid (∀ k, k < n.length → isBx w xs0[k]! n[k]!) := fun k hk => ha.2 k hk
  have HLx := Lib.hid hlx
  clear hx0 ha hs
  go_enter Try.func19, Try.ntmps19
  go_wp2_with fail
  refine (HCl.out).mono ?_
  rintro e w1 ⟨u, rfl, hO1, hb1⟩
  have hcase : (u = .slice none 0 0 ∧ xs0.length = 0) ∨ ∃ g cap, u = .slice (some ⟨g, 0, none⟩) xs0.length cap := by
    obtain ⟨h1, ⟨e, h2⟩ | ⟨g, cap, cur, e, _⟩⟩ := hO1
    · exact .inl ⟨e, h2⟩
    · exact .inr ⟨g, cap, e⟩
  rcases hcase with ⟨rfl, h0⟩ | ⟨g, cap, rfl⟩
  · have hx : xs0 = [] := List.eq_nil_of_length_eq_zero h0
    have hnn : n = [] := List.eq_nil_of_length_eq_zero (by omega)
    subst hx hnn
    have HF : Hid (DeepB w.heap.size w1 (.slice none 0 0) []) := ⟨hO1, fun p hp => (by cases hp), List.Pairwise.nil⟩
    have HB := Lib.hid hb1
    clear hO1 hb1 HCl HCm HA
    go_wp2
    refine wp_loop_rounds 1 ?_
    rw [rounds_succ]
    go_wp2
    go_returns
    exact ⟨_, [], rfl, rfl, HF.out, HB.out⟩
  · have HS0 : Hid (CopS w g cap xs0 n 0 [] w1) := ⟨rfl, by simp, hO1, fun p hp => (by cases hp), List.Pairwise.nil, hb1⟩
    generalize hm : xs0.length = m at *
    have HM := Lib.hid hm
    have HLn : Hid (m = n.length) := hlx
    have hm1 : m ≤ 1000 := by omega
    clear hm hO1 hb1 HCl hlx HLx
    go_wp2_with fail
    go_loopg [9] m (fun gg iv wr => ∃ (k : Nat) (done : List (BW × BV)), k ≤ m ∧ m - k ≤ gg ∧ iv = .int .i64 (k : Int) ∧ Hid (CopS w g cap xs0 n k done wr))
    case atStart => exact ⟨0, [], Nat.zero_le _, by omega, rfl, HS0.out⟩
    case round =>
      obtain ⟨k, done, hk, hg2, rfl, HS⟩ := hrel
      rename World => wr
      clear HS0
      by_cases hlt : k < m
      · have hkz : (k : Int) < (m : Int) := by omega
        have hkx : k < xs0.length := by rw [HM.out]; exact hlt
        have hkn : k < n.length := by have := HLn.out; omega
        obtain ⟨hr, hl⟩ := HS.out.raw hkx
        obtain ⟨c3, _⟩ := own_cell HS.out.own hl
        rw [hr] at c3
        have HSt := Lib.hid (fun (W : World) (p : Option Addr) (c : Nat) (hW : Below wr.heap.size wr W) hv => HS.out.step hkx hkn (HA.out k hkn) hW (p := p) (c := c) hv)
        have HCk := Lib.hid (HCm.out k hkn wr HS.out.below)
        have HCe : Hid (∀ W, Below wr.heap.size wr W → ∃ u, W.cell? ⟨g, k * 4 + 3, none⟩ = some u ∧ W.frozen? ⟨g, k * 4 + 3, none⟩ = false) := fun W hW => ⟨_, own_cell (HS.out.own.below hW) hl⟩
        clear hr hl HS hkx hkn
        generalize xs0[k]! = r at *
        obtain ⟨re, rf, rt, rp, rn, rc⟩ := r
        generalize n[k]! = b at *
        simp only at c3
        go_wp2_with fail
        refine (HCk.out).mono ?_
        rintro e w2 ⟨u2, rfl, hO2, hb2⟩
        obtain ⟨p2, c2, rfl⟩ := hO2.is.slice
        have HS2 := Lib.hid (HSt.out w2 p2 c2 hb2 hO2)
        obtain ⟨_, d3, d4⟩ := HCe.out w2 hb2
        generalize b.l.length = bl at *
        clear c3 hO2 hb2 HSt HCk HCe
        go_wp2
        go_roundg (m - (k + 1))
        case measure => omega
        case rel => exact ⟨k + 1, _, by omega, by omega, by go_num, HS2.out⟩
      · obtain rfl : k = m := by omega
        have HF : Hid (done.map Prod.snd = n ∧ DeepB w.heap.size wr (.slice (some ⟨g, 0, none⟩) k cap) done ∧ Below w.heap.size w wr) := by
          have hS := HS.out
          refine ⟨by rw [hS.snd, List.take_of_length_le (by have := HLn.out; omega)], ⟨?_, hS.box, hS.apart⟩, hS.below⟩
          have q := hS.own
          rw [List.drop_of_length_le (by rw [HM.out]; exact Nat.le_refl _), List.append_nil, HM.out] at q
          exact q
        clear HS HCm HA
        go_wp2
        go_returns
        exact ⟨_, done, rfl, HF.out.1, HF.out.2.1, HF.out.2.2⟩
end Go.Proofs.Ytdgnblkoohakeaa
