/- the program's Len and All -/
import Derived.Test.YtdgnblkoohakeaaUs
import Derived.Test.YtdgnblkoohakeaaUg
import Derived.Test.YtdgnblkoohakeaaRowBig
namespace Go.Proofs.Ytdgnblkoohakeaa
open Go.RowKit
set_option linter.unusedVariables false
set_option linter.unusedSimpArgs false

theorem plen_any (n : List BV) (v : Value) (e f t : Int) (w : World) (hl : n.length ≤ 900000) (h : IsBs w v n) : Calls Try.prog 15 #[v, .int .i64 e, .int .i64 f, .int .i64 t] w (Ret (.int .i64 (lenN n e f t : Int)) w) := by
  have HR := Lib.hid (pright_any n v w hl h)
  have HF := Lib.hid (fun W hW hg => pfind_any n v e f t w W hl hg h hW)
  have HLen : Hid (rightN n = true → lenN n e f t = (listL n e f t).length) := fun q => by unfold lenN; rw [if_pos q, lenL_is]
  have HNo : Hid (rightN n = false → lenN n e f t = 0) := fun q => by unfold lenN; rw [if_neg (by rw [q]; decide)]
  generalize lenN n e f t = res at *
  go_enter Try.func15, Try.ntmps15
  go_wp2_with fail
  refine (HR.out).mono ?_
  rintro e' w1 ⟨rfl, hb1⟩
  have HB1 := Lib.hid hb1
  clear hb1 HR
  cases hr : rightN n
  · have HZ := Lib.hid (HNo.out hr)
    clear hr HLen HNo HF
    go_wp2
    go_returns
    exact ⟨by rw [HZ.out]; rfl, HB1.out⟩
  · have HZ := Lib.hid (HLen.out hr)
    have HF2 := Lib.hid (HF.out w1 HB1.out ((rightN_iff n).1 hr))
    clear hr HLen HNo HF
    go_wp2_with fail
    refine (HF2.out).mono ?_
    rintro x w2 ⟨k, th, p, c, rfl, _, _, _, hb2⟩
    have HB2 := Lib.hid (bcall HB1.out hb2 HB1.out.size)
    clear hb2 HF2
    generalize (listL n e f t).length = m at *
    go_wp2
    go_returns
    exact ⟨by rw [HZ.out]; rfl, HB2.out⟩
theorem flat_le {n : List BV} (h : ∀ b ∈ n, b.l.length ≤ 5000) : (n.flatMap BV.l).length ≤ 5000 * n.length := by
  induction n with
  | nil => exact Nat.zero_le _
  | cons b n ih =>
    have h1 := h b List.mem_cons_self
    have h2 := ih fun c hc => h c (List.mem_cons_of_mem _ hc)
    rw [List.flatMap_cons, List.length_append, List.length_cons]
    omega
theorem flat_succ {n : List BV} {k : Nat} (hk : k < n.length) : (n.take (k + 1)).flatMap BV.l = (n.take k).flatMap BV.l ++ (n[k]!).l := by
  rw [List.take_succ_eq_append_getElem hk, List.flatMap_append, getElem!_pos n k hk]
  simp
set_option maxRecDepth 100000 in
set_option maxHeartbeats 16000000 in
theorem pall_any (n : List BV) (v : Value) (w : World) (hs : SmallN n) (h : IsBs w v n) : Calls Try.prog 18 #[v] w (fun x W' => ∃ u, x = .returned u ∧ RM.Is W' u (allN n) ∧ Below w.heap.size w W') := by
  have hl1 := hs.1
  have HR := Lib.hid (pright_any n v w (by omega) h)
  have HYes : Hid (rightN n = true → allN n = n.flatMap BV.l) := fun q => by unfold allN; rw [if_pos q]
  have HNo : Hid (rightN n = false → allN n = []) := fun q => by unfold allN; rw [if_neg (by rw [q]; decide)]
  have HLe : Hid (∀ k, k < n.length → (((n.take k).flatMap BV.l).length + (n[k]!).l.length) * RM.bytes ≤ 140737488355328) := fun k hk => by
    have h1 := flat_le (n := n.take (k + 1)) fun b hb => hs.2 b (List.mem_of_mem_take hb)
    rw [flat_succ hk, List.length_append] at h1
    have h2 := hs.1
    have h3 : (n.take (k + 1)).length ≤ 1000 := by rw [List.length_take]; omega
    have h80 : RM.bytes = 80 := rfl
    rw [h80]
    omega
  obtain ⟨p, c, rfl, ho⟩ := h.opened
  have HO := Lib.hid ho
  clear h ho hs
  go_enter Try.func18, Try.ntmps18
  go_wp2_with fail
  refine (HR.out).mono ?_
  rintro e' w1 ⟨rfl, hb1⟩
  have HB1 := Lib.hid hb1
  clear hb1 HR
  cases hr : rightN n
  · have HZ := Lib.hid (HNo.out hr)
    clear hr HYes HNo
    go_wp2
    go_returns
    exact ⟨_, rfl, by rw [HZ.out]; exact RowKind.Is.nil _, HB1.out⟩
  · have HZ := Lib.hid (HYes.out hr)
    clear hr HYes HNo
    go_wp2_with fail
    go_loopg [3, 11] n.length (fun gg v3 iv wr => ∃ k : Nat, k ≤ n.length ∧ n.length - k ≤ gg ∧ iv = .int .i64 (k : Int) ∧ Hid (Below w1.heap.size w1 wr) ∧ Hid (RM.Own w1.heap.size wr v3 ((n.take k).flatMap BV.l)))
    case atStart => exact ⟨0, Nat.zero_le _, by omega, rfl, Below.refl _ _, RowKind.Own.nil RM _ _⟩
    case round =>
      obtain ⟨k, hk, hg, rfl, HB2, HOw⟩ := hrel
      rename World => wr
      have HBw := Lib.hid (bcall HB1.out HB2.out HB1.out.size)
      by_cases hlt : k < n.length
      · have hkz : (k : Int) < (n.length : Int) := by omega
        obtain ⟨b, off, q, d, rfl, hI, hc⟩ := HO.out k hlt
        obtain ⟨e0, e1, e2, e3⟩ := hc wr HBw.out
        have HLk := Lib.hid (HLe.out k hlt)
        have HSu := Lib.hid (flat_succ hlt)
        generalize n[k]! = x at *
        obtain ⟨xe, xf, xt, xl⟩ := x
        simp only at e0 e1 e2 e3 hI
        have HI := Lib.hid hI
        have HLk : Hid ((((n.take k).flatMap BV.l).length + xl.length) * RM.bytes ≤ 140737488355328) := HLk.out
        have HSu : Hid ((n.take (k + 1)).flatMap BV.l = (n.take k).flatMap BV.l ++ xl) := HSu.out
        clear hI hc HLe
        go_upto_region 7 with (fail)
        refine gen_world (fun W3 => Below wr.heap.size wr W3 ∧ Boxed W3 wr.heap.size #[.int .i64 xe, .int .i64 xf, .int .i64 xt, .slice q xl.length d] 34) ⟨by first | exact (Below.refl _ _).alloc (Nat.le_refl _) _ | go_grown, by first | exact heap_alloc_new _ _ | skip⟩ ?_
        rintro w3 ⟨hb3, hx3⟩
        have HB3 := Lib.hid (bcall HB2.out hb3 HB2.out.size)
        have HB3w := Lib.hid (bcall HBw.out hb3 HBw.out.size)
        have HOw3 := Lib.hid (HOw.out.below hb3)
        have HI3 := Lib.hid (HI.out.below HB3w.out)
        have b3 : w3.cell? ⟨wr.heap.size, 3, none⟩ = some (.slice q xl.length d) := hx3.cell 3
        clear e0 e1 e2 e3 hb3 hx3 HOw HBw HB2 HI
        go_wp2_with (at_builtin; refine RowKind.Own.appendAnyL (R := RM) (ys := xl) HOw3.out HB3.out HB3.out.size (by decide) rfl _ _ rfl rfl rfl HI3.out HLk.out ?_; intro v9 w9 hO9 hB9 hz9; have HB9 := Lib.hid hB9; have HO9 := Lib.hid hO9; clear hO9 hB9 hz9 b3)
        go_roundg (n.length - (k + 1))
        case measure => omega
        case rel => exact ⟨k + 1, by omega, by omega, by go_num, HB9.out, by rw [HSu.out]; exact HO9.out⟩
      · obtain rfl : k = n.length := by omega
        have HO9 : Hid (RM.Is wr u3 (n.flatMap BV.l)) := by have q := HOw.out.is; rw [List.take_length] at q; exact q
        clear HOw HLe
        go_wp2
        go_returns
        exact ⟨_, rfl, by rw [HZ.out]; exact HO9.out, HBw.out⟩
end Go.Proofs.Ytdgnblkoohakeaa
