/- the program's edgeStep -/
import Derived.Test.YtjaahmgokiobjaaGreatG14
import Derived.Test.YtjaahmgokiobjaaGreatG12
import Derived.Test.YtjaahmgokiobjaaGreatG26
import Derived.Test.YtjaahmgokiobjaaGreatG09
namespace Go.Proofs.YtjaahmgokiobjaaGreat
open Go.RowKit
set_option linter.unusedVariables false
set_option linter.unusedSimpArgs false
attribute [local go_sem ↓] loadH loadT storeH storeT
attribute [local simp] size_setRow
attribute [local go_sem] rowAt_head rowOf_alloc_at rowOf_alloc_past rowOf_drew rowOf_drewN rowOf_setRow_same rowOf_setRow_other rowOf_setCell_same rowOf_setCell_other size_setRow setRow_drew setRow_alloc_at setRow_alloc_past one_int one_bool cell_setRow_same cell_setRow_other frozen_setRow_same frozen_setRow_other
attribute [local go_sem ↓] run_imin

theorem does_enter {d : Int} {V : HV} (h : stepH d 10 = V) (hr : V.rightB = true) (W : World) : Calls Tryz.prog 87 #[.int .i64 d] W (Ret (.tuple #[V.val, .bool true]) W) := by
  have q := Enter_h d W
  have e : enterH d = V := by rw [← h]; unfold stepH enterH; rw [if_pos rfl]
  rw [e, hr, gate_yes] at q
  exact q
theorem does_leave {d : Int} {V : HV} (h : stepH d 11 = V) (hr : V.rightB = true) (W : World) : Calls Tryz.prog 88 #[.int .i64 d] W (Ret (.tuple #[V.val, .bool true]) W) := by
  have q := leave_any_h d W
  have e : leaveH d = V := by rw [← h]; unfold stepH leaveH; rw [if_neg (by omega), if_pos rfl]
  rw [e, hr] at q
  exact q
theorem does_next {d : Int} {V : HV} (h : stepH d 12 = V) (hr : V.rightB = true) (W : World) : Calls Tryz.prog 89 #[.int .i64 d] W (Ret (.tuple #[V.val, .bool true]) W) := by
  have q := Next_h d W
  have e : nextH d = V := by
    have e2 : stepH d 12 = nextH d := by
      unfold stepH
      rw [if_neg (show ¬ (12 : Int) = 10 by decide), if_neg (show ¬ (12 : Int) = 11 by decide), if_pos rfl]
      rfl
    rw [← h, e2]
  rw [e, hr, gate_yes] at q
  exact q
theorem does_same {d k : Int} {V : HV} (h : stepH d k = V) (h10 : k ≠ 10) (h11 : k ≠ 11) (h12 : k ≠ 12) (hr : V.rightB = true) (W : World) : Calls Tryz.prog 33 #[.int .i64 d] W (Ret (.tuple #[V.val, .bool true]) W) := by
  have q := Same_h d W
  have e : sameH d = V := by rw [← h]; unfold stepH sameH; rw [if_neg h10, if_neg h11, if_neg h12]
  rw [e, hr, gate_yes] at q
  exact q

set_option maxRecDepth 100000 in
set_option maxHeartbeats 16000000 in
theorem edge_enter (n : Nat) (L : Int) (V : HV) (p1 p2 p4 : Option Addr) (b off n1 n2 n3 n4 c1 c2 c3 c4 : Nat) (w : World) (hnl : (n : Int) < (n3 : Int)) (hk : w.cell? ⟨b, off + n * 4, none⟩ = some (.int .i64 10))
    (HT : Hid (∀ W, Below w.heap.size w W → Calls Tryz.prog 34 #[.agg #[.slice p1 n1 c1, .slice p2 n2 c2, .slice (some ⟨b, off, none⟩) n3 c3, .slice p4 n4 c4], .int .i64 (n : Int)] W (Ret (.int .i64 L) W)))
    (HD : Hid (∀ W, Calls Tryz.prog 87 #[.int .i64 L] W (Ret (.tuple #[V.val, .bool true]) W))) :
    Calls Tryz.prog 67 #[.agg #[.slice p1 n1 c1, .slice p2 n2 c2, .slice (some ⟨b, off, none⟩) n3 c3, .slice p4 n4 c4], .int .i64 (n : Int)] w (Ret V.val w) := by
  have hb0 : b < w.heap.size := World.block_lt_of_cell? _ _ hk
  have D0 := Nat.ne_of_lt hb0
  have HS := Lib.hid (show Below w.heap.size w ((w.alloc (.cells #[.slice p1 n1 c1, .slice p2 n2 c2, .slice (some ⟨b, off, none⟩) n3 c3, .slice p4 n4 c4] 26)).alloc (.cells (hvRow HV.zero) 55)) from ((Below.refl _ _).alloc (Nat.le_refl _) _).alloc (by simp) _)
  have HR : Hid (rowOf ((w.alloc (.cells #[.slice p1 n1 c1, .slice p2 n2 c2, .slice (some ⟨b, off, none⟩) n3 c3, .slice p4 n4 c4] 26)).alloc (.cells (hvRow HV.zero) 55)) (w.heap.size + 1) = some (hvRow HV.zero)) := row_new (by simp)
  go_enter Tryz.func67, Tryz.ntmps67
  generalize hQ : bodyPost _ _ _ = Q0
  have HQ := Lib.hid hQ
  clear hQ
  go_wp2_with fail
  refine (HT.out _ HS.out).mono ?_
  rintro e w1 ⟨rfl, hb1⟩
  have HB1 := Lib.hid (bstep HS.out hb1 HS.out.size)
  have HR1 := Lib.hid (rowOf_below HR.out hb1 (rowOf_lt HR.out))
  clear hb1 HS HR HT
  go_wp2_with fail
  refine (HD.out _).mono ?_
  rintro e w2 ⟨rfl, hb2⟩
  have HB2 := Lib.hid (bstep HB1.out hb2 HB1.out.size)
  have N_r := rowOf_below HR1.out hb2 (rowOf_lt HR1.out)
  have L_r := rowOf_lt N_r
  have D_r := Nat.ne_of_lt L_r
  clear hb2 HB1 HR1 HD
  go_wp2
  rw [← HQ.out]
  exact bodyPost_ret (v := V.val) (by simp [results, Tryz.results67, go_sem, N_r, L_r, D_r]) rfl ⟨rfl, by first | exact below_setRow (HB2.out.alloc HB2.out.size _) _ _ (by omega) | exact (below_setRow HB2.out _ _ (by omega)).alloc (by rw [size_setRow]; exact HB2.out.size) _⟩

set_option maxRecDepth 100000 in
set_option maxHeartbeats 16000000 in
theorem edge_leave (n : Nat) (L : Int) (V : HV) (p1 p2 p4 : Option Addr) (b off n1 n2 n3 n4 c1 c2 c3 c4 : Nat) (w : World) (hnl : (n : Int) < (n3 : Int)) (hk : w.cell? ⟨b, off + n * 4, none⟩ = some (.int .i64 11))
    (HT : Hid (∀ W, Below w.heap.size w W → Calls Tryz.prog 34 #[.agg #[.slice p1 n1 c1, .slice p2 n2 c2, .slice (some ⟨b, off, none⟩) n3 c3, .slice p4 n4 c4], .int .i64 (n : Int)] W (Ret (.int .i64 L) W)))
    (HD : Hid (∀ W, Calls Tryz.prog 88 #[.int .i64 L] W (Ret (.tuple #[V.val, .bool true]) W))) :
    Calls Tryz.prog 67 #[.agg #[.slice p1 n1 c1, .slice p2 n2 c2, .slice (some ⟨b, off, none⟩) n3 c3, .slice p4 n4 c4], .int .i64 (n : Int)] w (Ret V.val w) := by
  have hb0 : b < w.heap.size := World.block_lt_of_cell? _ _ hk
  have D0 := Nat.ne_of_lt hb0
  have HS := Lib.hid (show Below w.heap.size w ((w.alloc (.cells #[.slice p1 n1 c1, .slice p2 n2 c2, .slice (some ⟨b, off, none⟩) n3 c3, .slice p4 n4 c4] 26)).alloc (.cells (hvRow HV.zero) 55)) from ((Below.refl _ _).alloc (Nat.le_refl _) _).alloc (by simp) _)
  have HR : Hid (rowOf ((w.alloc (.cells #[.slice p1 n1 c1, .slice p2 n2 c2, .slice (some ⟨b, off, none⟩) n3 c3, .slice p4 n4 c4] 26)).alloc (.cells (hvRow HV.zero) 55)) (w.heap.size + 1) = some (hvRow HV.zero)) := row_new (by simp)
  go_enter Tryz.func67, Tryz.ntmps67
  generalize hQ : bodyPost _ _ _ = Q0
  have HQ := Lib.hid hQ
  clear hQ
  go_wp2_with fail
  refine (HT.out _ HS.out).mono ?_
  rintro e w1 ⟨rfl, hb1⟩
  have HB1 := Lib.hid (bstep HS.out hb1 HS.out.size)
  have HR1 := Lib.hid (rowOf_below HR.out hb1 (rowOf_lt HR.out))
  clear hb1 HS HR HT
  go_wp2_with fail
  refine (HD.out _).mono ?_
  rintro e w2 ⟨rfl, hb2⟩
  have HB2 := Lib.hid (bstep HB1.out hb2 HB1.out.size)
  have N_r := rowOf_below HR1.out hb2 (rowOf_lt HR1.out)
  have L_r := rowOf_lt N_r
  have D_r := Nat.ne_of_lt L_r
  clear hb2 HB1 HR1 HD
  go_wp2
  rw [← HQ.out]
  exact bodyPost_ret (v := V.val) (by simp [results, Tryz.results67, go_sem, N_r, L_r, D_r]) rfl ⟨rfl, by first | exact below_setRow (HB2.out.alloc HB2.out.size _) _ _ (by omega) | exact (below_setRow HB2.out _ _ (by omega)).alloc (by rw [size_setRow]; exact HB2.out.size) _⟩

set_option maxRecDepth 100000 in
set_option maxHeartbeats 16000000 in
theorem edge_next (n : Nat) (L : Int) (V : HV) (p1 p2 p4 : Option Addr) (b off n1 n2 n3 n4 c1 c2 c3 c4 : Nat) (w : World) (hnl : (n : Int) < (n3 : Int)) (hk : w.cell? ⟨b, off + n * 4, none⟩ = some (.int .i64 12))
    (HT : Hid (∀ W, Below w.heap.size w W → Calls Tryz.prog 34 #[.agg #[.slice p1 n1 c1, .slice p2 n2 c2, .slice (some ⟨b, off, none⟩) n3 c3, .slice p4 n4 c4], .int .i64 (n : Int)] W (Ret (.int .i64 L) W)))
    (HD : Hid (∀ W, Calls Tryz.prog 89 #[.int .i64 L] W (Ret (.tuple #[V.val, .bool true]) W))) :
    Calls Tryz.prog 67 #[.agg #[.slice p1 n1 c1, .slice p2 n2 c2, .slice (some ⟨b, off, none⟩) n3 c3, .slice p4 n4 c4], .int .i64 (n : Int)] w (Ret V.val w) := by
  have hb0 : b < w.heap.size := World.block_lt_of_cell? _ _ hk
  have D0 := Nat.ne_of_lt hb0
  have HS := Lib.hid (show Below w.heap.size w ((w.alloc (.cells #[.slice p1 n1 c1, .slice p2 n2 c2, .slice (some ⟨b, off, none⟩) n3 c3, .slice p4 n4 c4] 26)).alloc (.cells (hvRow HV.zero) 55)) from ((Below.refl _ _).alloc (Nat.le_refl _) _).alloc (by simp) _)
  have HR : Hid (rowOf ((w.alloc (.cells #[.slice p1 n1 c1, .slice p2 n2 c2, .slice (some ⟨b, off, none⟩) n3 c3, .slice p4 n4 c4] 26)).alloc (.cells (hvRow HV.zero) 55)) (w.heap.size + 1) = some (hvRow HV.zero)) := row_new (by simp)
  go_enter Tryz.func67, Tryz.ntmps67
  generalize hQ : bodyPost _ _ _ = Q0
  have HQ := Lib.hid hQ
  clear hQ
  go_wp2_with fail
  refine (HT.out _ HS.out).mono ?_
  rintro e w1 ⟨rfl, hb1⟩
  have HB1 := Lib.hid (bstep HS.out hb1 HS.out.size)
  have HR1 := Lib.hid (rowOf_below HR.out hb1 (rowOf_lt HR.out))
  clear hb1 HS HR HT
  go_wp2_with fail
  refine (HD.out _).mono ?_
  rintro e w2 ⟨rfl, hb2⟩
  have HB2 := Lib.hid (bstep HB1.out hb2 HB1.out.size)
  have N_r := rowOf_below HR1.out hb2 (rowOf_lt HR1.out)
  have L_r := rowOf_lt N_r
  have D_r := Nat.ne_of_lt L_r
  clear hb2 HB1 HR1 HD
  go_wp2
  rw [← HQ.out]
  exact bodyPost_ret (v := V.val) (by simp [results, Tryz.results67, go_sem, N_r, L_r, D_r]) rfl ⟨rfl, by first | exact below_setRow (HB2.out.alloc HB2.out.size _) _ _ (by omega) | exact (below_setRow HB2.out _ _ (by omega)).alloc (by rw [size_setRow]; exact HB2.out.size) _⟩

set_option maxRecDepth 100000 in
set_option maxHeartbeats 16000000 in
theorem edge_same (n : Nat) (L : Int) (k : Int) (h10 : (k == 10) = false) (h11 : (k == 11) = false) (h12 : (k == 12) = false) (V : HV) (p1 p2 p4 : Option Addr) (b off n1 n2 n3 n4 c1 c2 c3 c4 : Nat) (w : World) (hnl : (n : Int) < (n3 : Int)) (hk : w.cell? ⟨b, off + n * 4, none⟩ = some (.int .i64 k))
    (HT : Hid (∀ W, Below w.heap.size w W → Calls Tryz.prog 34 #[.agg #[.slice p1 n1 c1, .slice p2 n2 c2, .slice (some ⟨b, off, none⟩) n3 c3, .slice p4 n4 c4], .int .i64 (n : Int)] W (Ret (.int .i64 L) W)))
    (HD : Hid (∀ W, Calls Tryz.prog 33 #[.int .i64 L] W (Ret (.tuple #[V.val, .bool true]) W))) :
    Calls Tryz.prog 67 #[.agg #[.slice p1 n1 c1, .slice p2 n2 c2, .slice (some ⟨b, off, none⟩) n3 c3, .slice p4 n4 c4], .int .i64 (n : Int)] w (Ret V.val w) := by
  have hb0 : b < w.heap.size := World.block_lt_of_cell? _ _ hk
  have D0 := Nat.ne_of_lt hb0
  have HS := Lib.hid (show Below w.heap.size w ((w.alloc (.cells #[.slice p1 n1 c1, .slice p2 n2 c2, .slice (some ⟨b, off, none⟩) n3 c3, .slice p4 n4 c4] 26)).alloc (.cells (hvRow HV.zero) 55)) from ((Below.refl _ _).alloc (Nat.le_refl _) _).alloc (by simp) _)
  have HR : Hid (rowOf ((w.alloc (.cells #[.slice p1 n1 c1, .slice p2 n2 c2, .slice (some ⟨b, off, none⟩) n3 c3, .slice p4 n4 c4] 26)).alloc (.cells (hvRow HV.zero) 55)) (w.heap.size + 1) = some (hvRow HV.zero)) := row_new (by simp)
  go_enter Tryz.func67, Tryz.ntmps67
  generalize hQ : bodyPost _ _ _ = Q0
  have HQ := Lib.hid hQ
  clear hQ
  go_wp2_with fail
  refine (HT.out _ HS.out).mono ?_
  rintro e w1 ⟨rfl, hb1⟩
  have HB1 := Lib.hid (bstep HS.out hb1 HS.out.size)
  have HR1 := Lib.hid (rowOf_below HR.out hb1 (rowOf_lt HR.out))
  clear hb1 HS HR HT
  go_wp2_with fail
  refine (HD.out _).mono ?_
  rintro e w2 ⟨rfl, hb2⟩
  have HB2 := Lib.hid (bstep HB1.out hb2 HB1.out.size)
  have N_r := rowOf_below HR1.out hb2 (rowOf_lt HR1.out)
  have L_r := rowOf_lt N_r
  have D_r := Nat.ne_of_lt L_r
  clear hb2 HB1 HR1 HD
  go_wp2
  rw [← HQ.out]
  exact bodyPost_ret (v := V.val) (by simp [results, Tryz.results67, go_sem, N_r, L_r, D_r]) rfl ⟨rfl, by first | exact below_setRow (HB2.out.alloc HB2.out.size _) _ _ (by omega) | exact (below_setRow HB2.out _ _ (by omega)).alloc (by rw [size_setRow]; exact HB2.out.size) _⟩
/-- the step of the edges out of an operator -/
theorem pedge_any (g : GV) (v : Value) (n : Nat) (w : World) (h : IsG w v g) (M : May g) (T : Tree g) (hn : n < g.nodes.length) :
    Calls Tryz.prog 67 #[v, .int .i64 (n : Int)] w (Ret (stepH (levelG g n false) g.nodes[n]!.kind).val w) := by
  have HT : Hid (∀ W, Below w.heap.size w W → Calls Tryz.prog 34 #[v, .int .i64 (n : Int)] W (Ret (.int .i64 (levelG g n false : Int)) W)) := fun W hW => ptakes_any g v n W (h.below hW) M T hn
  have hr := (M.step_facts n hn).1
  obtain ⟨p1, c1, p2, c2, p3, c3, p4, c4, rfl, G⟩ := h.go
  obtain ⟨b, off, p, c, rfl, _, hc⟩ := G.nod n hn
  have hk := (hc w (Below.refl _ _)).1
  have hnl : (n : Int) < (g.nodes.length : Int) := by omega
  clear h G hc M T
  generalize hV : stepH (levelG g n false) g.nodes[n]!.kind = V at hr ⊢
  generalize (levelG g n false : Int) = L at *
  generalize g.nodes[n]!.kind = k at *
  by_cases h10 : k = 10
  · subst h10
    exact edge_enter n L V _ _ _ b off _ _ _ _ _ _ _ _ w hnl hk HT fun W => does_enter hV hr W
  · by_cases h11 : k = 11
    · subst h11
      exact edge_leave n L V _ _ _ b off _ _ _ _ _ _ _ _ w hnl hk HT fun W => does_leave hV hr W
    · by_cases h12 : k = 12
      · subst h12
        exact edge_next n L V _ _ _ b off _ _ _ _ _ _ _ _ w hnl hk HT fun W => does_next hV hr W
      · exact edge_same n L k (by simpa using h10) (by simpa using h11) (by simpa using h12) V _ _ _ b off _ _ _ _ _ _ _ _ w hnl hk HT fun W => does_same hV h10 h11 h12 hr W
end Go.Proofs.YtjaahmgokiobjaaGreat
/- plain: the program's put and Least keep the lowest steps -/
namespace Go.Proofs.YtjaahmgokiobjaaGreat
open Go.RowKit
set_option linter.unusedVariables false
set_option linter.unusedSimpArgs false

/-- a step that is not right, or at or behind one of these, is not put -/
def putNo (l : List HV) (h : HV) : Bool := !h.rightB || l.any fun x => leH x h
/-- a step put behind lowest ones -/
def putL (l : List HV) (h : HV) : List HV := if putNo l h = true then l else (l.filter fun x => !leH h x) ++ [h]
theorem LeastOf.congr {S T : HV → Prop} {l : List HV} (h : LeastOf S l) (e : ∀ x, S x ↔ T x) : LeastOf T l :=
  ⟨h.nodup, fun x hx => (e x).1 (h.mem x hx), h.right, h.anti, fun x hx => h.cover x ((e x).2 hx)⟩
theorem LeastOf.perm {S : HV → Prop} {l m : List HV} (h : LeastOf S l) (e : m.Perm l) : LeastOf S m :=
  ⟨e.nodup_iff.2 h.nodup, fun x hx => h.mem x (e.mem_iff.1 hx), fun x hx => h.right x (e.mem_iff.1 hx), fun x hx y hy => h.anti x (e.mem_iff.1 hx) y (e.mem_iff.1 hy), fun x hx => by
    obtain ⟨y, hy, hl⟩ := h.cover x hx
    exact ⟨y, e.mem_iff.2 hy, hl⟩⟩
theorem LeastOf.none : LeastOf (fun _ => False) [] := ⟨List.nodup_nil, fun _ h => by simp at h, fun _ h => by simp at h, fun _ h => by simp at h, fun _ h => h.elim⟩
theorem put_least {S : HV → Prop} {l : List HV} (L : LeastOf S l) (h : HV) : LeastOf (fun x => S x ∨ (x = h ∧ h.rightB = true)) (putL l h) := by
  unfold putL
  by_cases hp : putNo l h = true
  · rw [if_pos hp]
    unfold putNo at hp
    rw [Bool.or_eq_true] at hp
    refine ⟨L.nodup, fun x hx => .inl (L.mem x hx), L.right, L.anti, fun x hx => ?_⟩
    rcases hx with hx | ⟨rfl, hr⟩
    · exact L.cover x hx
    · rcases hp with hp | hp
      · rw [hr] at hp; cases hp
      · obtain ⟨y, hy, hl⟩ := List.any_eq_true.1 hp
        exact ⟨y, hy, hl⟩
  · rw [if_neg hp]
    unfold putNo at hp
    rw [Bool.or_eq_true, not_or] at hp
    obtain ⟨h1, h2⟩ := hp
    have hr : h.rightB = true := by cases q : h.rightB <;> simp_all
    have hn : ∀ x ∈ l, leH x h = false := fun x hx => by
      cases q : leH x h
      · rfl
      · exact absurd (List.any_eq_true.2 ⟨x, hx, q⟩) h2
    have hf : ∀ x, x ∈ (l.filter fun x => !leH h x) ↔ x ∈ l ∧ leH h x = false := fun x => by rw [List.mem_filter]; simp
    refine ⟨?_, fun x hx => ?_, fun x hx => ?_, fun a ha x hx hl => ?_, fun x hx => ?_⟩
    · rw [List.nodup_append]
      refine ⟨L.nodup.filter _, by simp, fun a ha b hb e => ?_⟩
      have hb : b = h := by simpa using hb
      subst hb
      subst e
      have := ((hf a).1 ha).2
      rw [leH_self hr] at this
      cases this
    · rcases List.mem_append.1 hx with hx | hx
      · exact .inl (L.mem x ((hf x).1 hx).1)
      · exact .inr ⟨by simpa using hx, hr⟩
    · rcases List.mem_append.1 hx with hx | hx
      · exact L.right x ((hf x).1 hx).1
      · rw [show x = h by simpa using hx]; exact hr
    · rcases List.mem_append.1 ha with ha | ha <;> rcases List.mem_append.1 hx with hx | hx
      · exact L.anti a ((hf a).1 ha).1 x ((hf x).1 hx).1 hl
      · have : x = h := by simpa using hx
        subst this
        rw [((hf a).1 ha).2] at hl
        cases hl
      · have : a = h := by simpa using ha
        subst this
        rw [hn x ((hf x).1 hx).1] at hl
        cases hl
      · rw [show x = h by simpa using hx, show a = h by simpa using ha]
    · rcases hx with hx | ⟨rfl, _⟩
      · obtain ⟨y, hy, hl⟩ := L.cover x hx
        cases q : leH h y
        · exact ⟨y, List.mem_append_left _ ((hf y).2 ⟨hy, q⟩), hl⟩
        · exact ⟨h, List.mem_append_right _ List.mem_cons_self, leH_trans q hl⟩
      · exact ⟨x, List.mem_append_right _ List.mem_cons_self, leH_self hr⟩
/-- the lowest of the right ones, one by one -/
def leastP (l : List HV) : List HV := l.foldl putL []
theorem foldl_put : ∀ (l : List HV) {a : List HV} {S : HV → Prop}, LeastOf S a → LeastOf (fun x => S x ∨ (x ∈ l ∧ x.rightB = true)) (l.foldl putL a)
  | [], a, S, L => L.congr fun x => by simp
  | h :: l, a, S, L => (foldl_put l (put_least L h)).congr fun x => by
    rw [List.mem_cons]
    constructor
    · rintro ((h1 | ⟨rfl, h1⟩) | ⟨h1, h2⟩)
      · exact .inl h1
      · exact .inr ⟨.inl rfl, h1⟩
      · exact .inr ⟨.inr h1, h2⟩
    · rintro (h1 | ⟨rfl | h1, h2⟩)
      · exact .inl (.inl h1)
      · exact .inl (.inr ⟨rfl, h2⟩)
      · exact .inr ⟨h1, h2⟩
theorem leastP_of (l : List HV) : LeastOf (fun h => h ∈ l ∧ h.rightB = true) (leastP l) := (foldl_put l LeastOf.none).congr fun x => by simp
theorem putL_len (l : List HV) (h : HV) : (putL l h).length ≤ l.length + 1 := by
  unfold putL
  split
  · omega
  · rw [List.length_append]
    have := List.length_filter_le (fun x => !leH h x) l
    simp only [List.length_singleton]
    omega
theorem leastP_take (l : List HV) (k : Nat) (hk : k < l.length) : leastP (l.take (k + 1)) = putL (leastP (l.take k)) l[k]! := by
  unfold leastP
  rw [List.take_succ_eq_append_getElem hk, List.foldl_append, getElem!_pos l k hk]
  rfl
theorem leastP_len (l : List HV) : (leastP l).length ≤ l.length := by
  have : ∀ (l a : List HV), (l.foldl putL a).length ≤ a.length + l.length := by
    intro l
    induction l with
    | nil => intro a; simp
    | cons h l ih =>
      intro a
      rw [List.foldl_cons, List.length_cons]
      have := ih (putL a h)
      have := putL_len a h
      omega
  have := this l []
  unfold leastP
  simpa using this
end Go.Proofs.YtjaahmgokiobjaaGreat
