/- graph.putEdges -/
import Derived.Test.YtdhmoiiagplbpaaVza
namespace Go.Proofs.Ytdhmoiiagplbpaa
open Go.RowKit
set_option linter.unusedVariables false
set_option linter.unusedSimpArgs false

set_option maxRecDepth 100000 in
set_option maxHeartbeats 8000000 in
theorem pedges_any (g : GV) (v : Value) (bs tot : List Int) (ev : Value) (w0 w : World) (hf : g.edges.length ≤ 64 ∧ ∀ e ∈ g.edges, fitsE e) (hB : Below w0.heap.size w0 w) (hE : RE.Is w0 ev g.edges) (ho : OwnF w0.heap.size w v bs) (ht : bs ++ (bytesOf g.edges.length ++ tailE g 0) = tot) (hl : tot.length ≤ 60000) :
    Calls Try.prog 21 #[v, ev] w (PutT w0.heap.size w v [] tot) := by
  obtain ⟨hn64, hlow⟩ := hf
  obtain ⟨p, c, rfl, hop⟩ := hE.opened
  have HLo := Lib.hid (fun j (hj : j < g.edges.length) => show fitsE g.edges[j]! by rw [getElem!_pos g.edges j hj]; exact hlow _ (List.getElem_mem _))
  have HSt := Lib.hid (fun j (h : j < g.edges.length) => tailE_step (g := g) h)
  have HEnd := Lib.hid (tailE_end g)
  have HRow := Lib.hid (fun j (hj : j < g.edges.length) => show ∃ b off, p = some ⟨b, off, none⟩ ∧ ∀ W, Below w0.heap.size w0 W → _ from by
    obtain ⟨b, off, e, hb, hr⟩ := hop j hj
    exact ⟨b, off, e, fun W hW => atE (hr.below hW hb) j hj⟩)
  clear hop hlow hE
  generalize hn : g.edges.length = n at *
  clear hn
  have HT0 := Lib.hid ht
  have HL := Lib.hid hl
  have HBw := Lib.hid hB
  have hbs : bs.length + 10 * 1 ≤ 900000 := by rw [← ht, List.length_append] at hl; omega
  have HP := Lib.hid (put_lit [(n : Int)] w0.heap.size v bs w w.heap.size 1 3 rfl rfl (by simp; omega) hbs ho hB.size)
  rw [flat1, Int.toNat_natCast] at HP
  have HvB : Hid (∀ k, v.ownBlock = some k → w0.heap.size ≤ k) := fun k hk => (ho.lt k hk).1
  clear ht hl hB ho hbs
  go_enter Try.func21, Try.ntmps21
  go_wp2_with fail
  refine (HP.out).mono ?_
  rintro ee w2 ⟨v2, rfl, hO2, hA2⟩
  have HO2 := Lib.hid hO2; have HA2 := Lib.hid hA2
  clear hO2 hA2 HP
  go_wp2_with fail
  go_loopg [0, 15] 65 (fun gg u9 i wr => ∃ (k : Nat) (u : Value) (ys : List Int), u = u9 ∧ k ≤ n ∧ n - k ≤ gg ∧ i = .int .i64 (k : Int) ∧ Hid (OwnF w0.heap.size wr u ys) ∧ Hid (ys ++ tailE g k = tot) ∧ Hid (Appd w wr v u))
  case atStart => exact ⟨0, _, _, rfl, by omega, by omega, rfl, HO2.out, (by show _ = _; rw [← HT0.out, List.append_assoc]), HA2.out⟩
  case round =>
    clear HO2 HA2 HT0
    obtain ⟨k, u, ys, rfl, hkn, hg, rfl, HO, HT, HA⟩ := hrel
    by_cases hlt : k < n
    · have hlz : (k : Int) < (n : Int) := by omega
      have HBr := Lib.hid (HA.out.below HBw.out HBw.out.size HvB.out)
      obtain ⟨b, off, rfl, hcs⟩ := HRow.out k hlt
      obtain ⟨e0, e1, e2, e3⟩ := hcs wr HBr.out
      obtain ⟨l0, l1, l2⟩ := HLo.out k hlt
      have htt := HT.out
      rw [HSt.out k hlt] at htt
      clear hcs
      generalize g.edges[k]! = x at *
      obtain ⟨x0, x1, x2, x3⟩ := x
      simp only at e0 e1 e2 e3 l0 l1 l2 htt
      have HTT := Lib.hid htt
      have hyl : ys.length + 10 * 4 ≤ 900000 := by have := HL.out; rw [← htt, List.length_append] at this; omega
      clear htt
      cases x3
      · have HC := Lib.hid (put_lit [x0, x1, x2, 0] w0.heap.size u ys (wr.alloc (.cells #[.int .i64 x0, .int .i64 x1, .int .i64 x2, .bool false] 58)) (wr.heap.size + 1) 4 3 (by simp) rfl (by intro z hz; simp at hz; rcases hz with rfl | rfl | rfl | rfl <;> first | exact low63 (by assumption) | decide) hyl (HO.out.alloc _) (by simp; have := HBr.out.size; omega))
        have hfl : flatN [x0, x1, x2, 0] = bytesOf x0.toNat ++ (bytesOf x1.toNat ++ (bytesOf x2.toNat ++ [0])) := by
          unfold flatN
          have : bytesOf 0 = [0] := bytes_lo (by decide)
          simp [this]
        rw [hfl] at HC
        have HAa := Lib.hid (Appd.ofBelow (w1 := wr.alloc (.cells #[.int .i64 x0, .int .i64 x1, .int .i64 x2, .bool false] 58)) ((Below.refl wr.heap.size wr).alloc (Nat.le_refl _) _) u)
        clear hfl HRow HSt HEnd HLo hyl l0 l1 l2 HT
        go_wp2_with fail
        refine (HC.out).mono ?_
        rintro ee wn ⟨v3, rfl, hO3, hA3⟩
        have HO3 := Lib.hid hO3
        have HA3 := Lib.hid (HA.out.trans (HAa.out.trans hA3))
        clear hO3 hA3 HC HAa
        go_wp2
        go_roundg (n - (k + 1))
        case measure => omega
        case rel => exact ⟨k + 1, _, _, rfl, by omega, by omega, by go_num, HO3.out, (by show _ = _; rw [← HTT.out]; unfold bitN; simp only [List.append_assoc]; rfl), HA3.out⟩
      · have HC := Lib.hid (put_lit [x0, x1, x2, 1] w0.heap.size u ys (wr.alloc (.cells #[.int .i64 x0, .int .i64 x1, .int .i64 x2, .bool true] 58)) (wr.heap.size + 1) 4 3 (by simp) rfl (by intro z hz; simp at hz; rcases hz with rfl | rfl | rfl | rfl <;> first | exact low63 (by assumption) | decide) hyl (HO.out.alloc _) (by simp; have := HBr.out.size; omega))
        have hfl : flatN [x0, x1, x2, 1] = bytesOf x0.toNat ++ (bytesOf x1.toNat ++ (bytesOf x2.toNat ++ [1])) := by
          unfold flatN
          have : bytesOf 1 = [1] := bytes_lo (by decide)
          simp [this]
        rw [hfl] at HC
        have HAa := Lib.hid (Appd.ofBelow (w1 := wr.alloc (.cells #[.int .i64 x0, .int .i64 x1, .int .i64 x2, .bool true] 58)) ((Below.refl wr.heap.size wr).alloc (Nat.le_refl _) _) u)
        clear hfl HRow HSt HEnd HLo hyl l0 l1 l2 HT
        go_wp2_with fail
        refine (HC.out).mono ?_
        rintro ee wn ⟨v3, rfl, hO3, hA3⟩
        have HO3 := Lib.hid hO3
        have HA3 := Lib.hid (HA.out.trans (HAa.out.trans hA3))
        clear hO3 hA3 HC HAa
        go_wp2
        go_roundg (n - (k + 1))
        case measure => omega
        case rel => exact ⟨k + 1, _, _, rfl, by omega, by omega, by go_num, HO3.out, (by show _ = _; rw [← HTT.out]; unfold bitN; simp only [List.append_assoc]; rfl), HA3.out⟩
    · have hlz : ¬ (k : Int) < (n : Int) := by omega
      obtain rfl : k = n := by omega
      have htt := HT.out
      rw [HEnd.out] at htt
      have HTT := Lib.hid htt
      clear HT htt HEnd HRow HSt HLo
      go_wp2
      go_returns
      exact ⟨_, ys, rfl, HO.out, HTT.out, HA.out⟩
end Go.Proofs.Ytdhmoiiagplbpaa
