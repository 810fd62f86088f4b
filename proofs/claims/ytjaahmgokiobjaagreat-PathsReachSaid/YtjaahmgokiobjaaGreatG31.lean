/- append to long rows inside a region that draws, from any slice; the block stays, or it is new -/
import Derived.Test.YtjaahmgokiobjaaGreatG30
import Derived.Test.YtjaahmgokiobjaaGreatG09
import Derived.Laws.OwnMore
import Derived.Test.YtjaahmgokiobjaaGreatG05
namespace Go.Proofs.YtjaahmgokiobjaaGreat
open Go.RowKit
set_option linter.unusedVariables false
set_option linter.unusedSimpArgs false
namespace RowKind
section
variable {α : Type} {R : RowKind α}
theorem run_appendBL {w : World} {B : Nat} {v vx : Value} {xs ys : List α} (hown : R.Own B w v xs) (hz : R.App w vx ys) (hb0 : 0 < R.bytes) (hlen : (xs.length + ys.length) * R.bytes ≤ 140737488355328) (hB : B ≤ w.heap.size) (ty : TypeId) :
    ∃ v' w', (Builtin.append_ #[R.tS, R.tS] ty #[v, vx]).run Tryz.prog w = .ok v' w' ∧ R.Own B w' v' (xs ++ ys) ∧ w.grownBy w' v.ownBlock ∧ StaysOrNew w v v' := by
  obtain ⟨i0, hi, hz0, hz1, hz2⟩ := info_parts R.info
  obtain ⟨ad, c, rfl, hc⟩ := hz
  have hm : xs.length + ys.length ≤ maxLen := len_ok hb0 hlen
  obtain ⟨v', w', hr, h1, h2, _⟩ := run_append_own (P := Tryz.prog) w B R.tS ty R.tE i0 R.zero R.k R.bytes R.under hi hz0 hz1 hz2 R.zlen R.k0 v xs.length (R.cells xs) hown ad ys.length c (R.cells ys) (R.cells_len ys) hc one_cells hm hlen hB
  refine ⟨v', w', hr, ?_, h2, ?_⟩
  · unfold Own
    rw [R.cells_append, List.length_append]
    exact h1
  · obtain ⟨hl, ⟨rfl, hn⟩ | ⟨g, cap, cur, rfl, hg0, hg, hle, hmx, hcs, htk⟩⟩ := hown
    · have hx : xs = [] := List.length_eq_zero_iff.1 hn
      subst hx
      obtain ⟨v2, w2, hr2, k1, _, _⟩ := run_append_own (P := Tryz.prog) w w.heap.size R.tS ty R.tE i0 R.zero R.k R.bytes R.under hi hz0 hz1 hz2 R.zlen R.k0 (.slice none 0 0) 0 [] (World.ownsRow_nil w _ R.tE R.k) ad ys.length c (R.cells ys) (R.cells_len ys) hc one_cells (by simpa using hm) (by simpa using hlen) (Nat.le_refl _)
      rw [hr] at hr2
      injection hr2 with e1 e2
      subst e1
      subst e2
      exact .inr fun k hk => (World.ownsRow.lt k1 k hk).1
    · by_cases hroom : xs.length + ys.length ≤ cap
      · have hk := R.k0
        have hsz : ∀ j, j < (R.cells ys).length → xs.length * i0.size + j < cur.size := fun j hj => by
          rw [R.cells_len] at hj
          rw [hcs, hz1]
          have : (xs.length + ys.length) * R.k ≤ cap * R.k := Nat.mul_le_mul_right _ hroom
          rw [Nat.add_mul] at this
          omega
        have hrun := run_append_room_cells (P := Tryz.prog) w R.tS ty R.tE i0 R.under hi g 0 xs.length cap ad ys.length c (R.cells ys) (by rw [hz1]; exact R.cells_len ys) hc one_cells hroom
          (fun j hj => by rw [Nat.zero_add]; unfold World.cell?; simp only [hg]; rw [Array.getElem?_eq_getElem (hsz j hj)]; rfl)
          (fun j hj => by unfold World.frozen?; simp only [hg]; simp)
        rw [hr] at hrun
        injection hrun with e1 e2
        subst e1
        exact .inl rfl
      · obtain ⟨v2, w2, hr2, k1, _⟩ := run_append_arg_grows (P := Tryz.prog) w R.tS ty R.tE i0 R.zero R.k R.bytes R.under hi hz0 hz1 hz2 R.zlen R.k0 ⟨g, 0, none⟩ xs.length cap (R.cells xs) (R.cells_len xs)
          (fun j u hj => by
            rw [Addr.add_lit, Nat.zero_add]
            unfold World.cell?
            simp only [hg]
            rw [← htk] at hj
            rw [List.getElem?_take] at hj
            split at hj
            · simpa using hj
            · cases hj)
          ad ys.length c (R.cells ys) (R.cells_len ys) hc (by omega) hm hlen
        rw [hr] at hr2
        injection hr2 with e1 e2
        subst e1
        subst e2
        exact .inr fun k hk => (World.ownsRow.lt k1 k hk).1
end
section
variable {α : Type} [Inhabited α] {R : RowKind α}
/-- append of a slice, wherever it lies, nil too -/
theorem run_appendAnyL {w : World} {B : Nat} {v vx : Value} {xs ys : List α} (hown : R.Own B w v xs) (his : R.Is w vx ys) (hb0 : 0 < R.bytes) (hlen : (xs.length + ys.length) * R.bytes ≤ 140737488355328) (hB : B ≤ w.heap.size) (ty : TypeId) :
    ∃ v' w', (Builtin.append_ #[R.tS, R.tS] ty #[v, vx]).run Tryz.prog w = .ok v' w' ∧ R.Own B w' v' (xs ++ ys) ∧ w.grownBy w' v.ownBlock ∧ StaysOrNew w v v' := by
  rcases his with ⟨rfl, p, cap, rfl, hp⟩ | ⟨hne, b, off, cap, rfl, hb, hr⟩
  · cases p with
    | none =>
      obtain rfl := hp rfl
      obtain ⟨i0, hi, _⟩ := info_parts R.info
      exact ⟨v, w, run_append_owned_none (P := Tryz.prog) (w := w) B R.tS ty R.tE i0 R.k R.under hi v _ _ hown, by rw [List.append_nil]; exact hown, ⟨rfl, rfl, rfl, Nat.le_refl _, fun _ _ _ => rfl⟩, .inl rfl⟩
    | some ad => exact run_appendBL hown ⟨ad, cap, rfl, fun j u hu => by simp [cells] at hu⟩ hb0 hlen hB ty
  · exact run_appendBL hown hr.app hb0 hlen hB ty
theorem Own.appendAnyRL {ops : Array Oper} {o : Oper} {a : Act} {K : Act → World → Prop} {Q : Exit → Act → World → Prop} {E : Prop} {w : World} (hb0 : 0 < R.bytes) (hgd : o.guard = none) (s x : Operand)
    (ho : o.op = .call { callee := .builtin .append, args := #[s, x], argTypes := #[R.tS, R.tS] }) {B : Nat} {v vx : Value} {xs ys : List α} (hown : R.Own B w v xs) (hs : a.eval s = v)
    (hx : a.eval x = vx) (his : R.Is w vx ys) (hlen : (xs.length + ys.length) * R.bytes ≤ 140737488355328) (hbase : B ≤ w.heap.size)
    (h : ∀ v' w', R.Own B w' v' (xs ++ ys) → w.grownBy w' v.ownBlock → StaysOrNew w v v' → K (a.put o.dst v') w') :
    if Region.wanted o (yielded ops a.tmps) = true then Oper.wp Tryz.prog o a w K Q else E := by
  have hw : Region.wanted o (yielded ops a.tmps) = true := by simp [Region.wanted, hgd]
  rw [if_pos hw]
  obtain ⟨v', w', hr, h1, h2, h3⟩ := run_appendAnyL hown his hb0 hlen hbase o.type
  exact wp_of_runB ho (by rw [hs, hx]; exact hr) (h v' w' h1 h2 h3)
end
end RowKind
end Go.Proofs.YtjaahmgokiobjaaGreat
/- the program's Le on steps: the whole walk -/
namespace Go.Proofs.YtjaahmgokiobjaaGreat
open Go.RowKit
set_option linter.unusedVariables false
set_option linter.unusedSimpArgs false
attribute [local go_sem ↓] loadH loadT storeH storeT
attribute [local simp] size_setRow
attribute [local go_sem] rowAt_head rowOf_alloc_at rowOf_alloc_past rowOf_drew rowOf_drewN rowOf_setRow_same rowOf_setRow_other rowOf_setCell_same rowOf_setCell_other size_setRow setRow_drew setRow_alloc_at setRow_alloc_past one_int one_bool cell_setRow_same cell_setRow_other frozen_setRow_same frozen_setRow_other
attribute [local go_sem ↓] run_imin

/-- the parameters' boxes -/
structure T2 (w W : World) (pa pb : Array Value) : Prop where
  B : Below w.heap.size w W
  a : rowOf W w.heap.size = some pa
  b : rowOf W (w.heap.size + 1) = some pb
theorem T2.below {w W W' : World} {pa pb : Array Value} (h : T2 w W pa pb) (hb : Below W.heap.size W W') : T2 w W' pa pb :=
  ⟨bstep h.B hb h.B.size, rowOf_below h.a hb (rowOf_lt h.a), rowOf_below h.b hb (rowOf_lt h.b)⟩
theorem T2.start {w : World} (pa pb : Array Value) (ta tb : TypeId) : T2 w ((w.alloc (.cells pa ta)).alloc (.cells pb tb)) pa pb :=
  ⟨((Below.refl _ _).alloc (Nat.le_refl _) _).alloc (by simp) _, row_old (row_new rfl), row_new (by simp)⟩
theorem leH_all {a b : HV} (ha : a.rightB = true) (hb : b.rightB = true) (hf : a.f = b.f) (hg : a.k + a.t = b.k + b.t) :
    leH a b = true ↔ ∀ j : Nat, (j : Int) < a.k + a.t → a.at j ≤ b.at j ∧ (a.k ≤ j ∨ (j : Int) < b.k) := by
  have s := right_size (shape_of ha)
  rw [leH_eq, decide_eq_true_eq]
  constructor
  · rintro ⟨_, _, _, _, h0, h1, h2, h3⟩ j hj
    have : j = 0 ∨ j = 1 ∨ j = 2 ∨ j = 3 := by omega
    rcases this with rfl | rfl | rfl | rfl
    · exact h0 hj
    · exact h1 hj
    · exact h2 hj
    · exact h3 hj
  · intro h
    exact ⟨ha, hb, hf, hg, fun q => h 0 q, fun q => h 1 q, fun q => h 2 q, fun q => h 3 q⟩
set_option maxRecDepth 100000 in
set_option maxHeartbeats 16000000 in
theorem jle_no (a b : HV) (hy : (a.rightB && b.rightB && (a.f == b.f) && (a.k + a.t == b.k + b.t)) = false) (w : World) : Calls Tryz.prog 63 #[a.val, b.val] w (Ret (.bool false) w) := by
  have HA : Hid (∀ W, Calls Tryz.prog 40 #[(HV.val a)] W (Ret (.bool a.rightB) W)) := fun W => jright_is rfl W
  have HB : Hid (∀ W, Calls Tryz.prog 40 #[(HV.val b)] W (Ret (.bool b.rightB) W)) := fun W => jright_is rfl W
  have GA : Hid (a.rightB = true → ∀ W, Calls Tryz.prog 42 #[(HV.val a)] W (Ret (.int .i64 (a.k + a.t)) W)) := fun h W => jgives_is a h rfl W
  have GB : Hid (b.rightB = true → ∀ W, Calls Tryz.prog 42 #[(HV.val b)] W (Ret (.int .i64 (b.k + b.t)) W)) := fun h W => jgives_is b h rfl W
  have hcase : (a.rightB = false) ∨ (a.rightB = true ∧ b.rightB = false) ∨ (a.rightB = true ∧ b.rightB = true ∧ (a.f != b.f) = true) ∨ (a.rightB = true ∧ b.rightB = true ∧ (a.f != b.f) = false ∧ (a.k + a.t != b.k + b.t) = true) := by
    cases h1 : a.rightB
    · exact .inl rfl
    · cases h2 : b.rightB
      · exact .inr (.inl ⟨rfl, rfl⟩)
      · rw [h1, h2] at hy
        cases h3 : a.f != b.f
        · refine .inr (.inr (.inr ⟨rfl, rfl, rfl, ?_⟩))
          have : a.f = b.f := by simpa using h3
          rw [this] at hy
          simpa using hy
        · exact .inr (.inr (.inl ⟨rfl, rfl, rfl⟩))
  clear hy
  generalize a.rightB = ra at *
  generalize b.rightB = rb at *
  generalize a.k + a.t = ga at *
  generalize b.k + b.t = gb at *
  go_enter Tryz.func63, Tryz.ntmps63
  go_wp2_with fail
  refine gen_world (fun W2 => Hid (T2 w W2 (hvRow a) (hvRow b))) (Lib.hid (T2.start _ _ _ _)) ?_
  rintro w1 HT
  have N_p := HT.out.a
  have L_p := rowOf_lt N_p
  have D_p := Nat.ne_of_lt L_p
  have N_q := HT.out.b
  have L_q := rowOf_lt N_q
  have D_q := Nat.ne_of_lt L_q
  refine wp_region_bx (by kernel_rfl) (by kernel_rfl) ?_
  have p_0 := bx_cell (rowOf_cell N_p 0 : _ = some (.int .i64 a.f))
  have p_1 := bx_cell (rowOf_cell N_p 1 : _ = some (.int .i64 a.k))
  have p_2 := bx_cell (rowOf_cell N_p 2 : _ = some (.int .i64 a.t))
  have p_3 := bx_cell (rowOf_cell N_p 3 : _ = some (.int .i64 a.a0))
  have p_4 := bx_cell (rowOf_cell N_p 4 : _ = some (.int .i64 a.a1))
  have p_5 := bx_cell (rowOf_cell N_p 5 : _ = some (.int .i64 a.a2))
  have p_6 := bx_cell (rowOf_cell N_p 6 : _ = some (.int .i64 a.a3))
  have p_7 := bx_cell (rowOf_cell N_p 7 : _ = some (.int .i64 a.b0))
  have p_8 := bx_cell (rowOf_cell N_p 8 : _ = some (.int .i64 a.b1))
  have p_9 := bx_cell (rowOf_cell N_p 9 : _ = some (.int .i64 a.b2))
  have p_10 := bx_cell (rowOf_cell N_p 10 : _ = some (.int .i64 a.b3))
  have q_0 := bx_cell (rowOf_cell N_q 0 : _ = some (.int .i64 b.f))
  have q_1 := bx_cell (rowOf_cell N_q 1 : _ = some (.int .i64 b.k))
  have q_2 := bx_cell (rowOf_cell N_q 2 : _ = some (.int .i64 b.t))
  have q_3 := bx_cell (rowOf_cell N_q 3 : _ = some (.int .i64 b.a0))
  have q_4 := bx_cell (rowOf_cell N_q 4 : _ = some (.int .i64 b.a1))
  have q_5 := bx_cell (rowOf_cell N_q 5 : _ = some (.int .i64 b.a2))
  have q_6 := bx_cell (rowOf_cell N_q 6 : _ = some (.int .i64 b.a3))
  have q_7 := bx_cell (rowOf_cell N_q 7 : _ = some (.int .i64 b.b0))
  have q_8 := bx_cell (rowOf_cell N_q 8 : _ = some (.int .i64 b.b1))
  have q_9 := bx_cell (rowOf_cell N_q 9 : _ = some (.int .i64 b.b2))
  have q_10 := bx_cell (rowOf_cell N_q 10 : _ = some (.int .i64 b.b3))
  clear N_p L_p D_p N_q L_q D_q
  rcases hcase with h1 | ⟨h1, h2⟩ | ⟨h1, h2, h3⟩ | ⟨h1, h2, h3, h4⟩
  all_goals
    (try subst h1); (try subst h2)
    repeat (first | go_big_quiet_step (first | (with_reducible exact Calls.bx (HA.out _)) | (with_reducible exact Calls.bx (HB.out _)) | (with_reducible exact Calls.bx (GA.out rfl _)) | (with_reducible exact Calls.bx (GB.out rfl _))) | quiet_step (first | (with_reducible exact Calls.bx (HA.out _)) | (with_reducible exact Calls.bx (HB.out _)) | (with_reducible exact Calls.bx (GA.out rfl _)) | (with_reducible exact Calls.bx (GB.out rfl _))))
    refine wpQuiet_nil ?_
    intro _ hw'
    obtain ⟨g9, hw''⟩ := hw'
    subst hw''
    have hb2 := g9.h
    generalize g9.w = w2 at hb2 ⊢
    clear g9
    have HT2 := Lib.hid (HT.out.below hb2)
    clear hb2 HT
    clear p_0 p_1 p_2 p_3 p_4 p_5 p_6 p_7 p_8 p_9 p_10 q_0 q_1 q_2 q_3 q_4 q_5 q_6 q_7 q_8 q_9 q_10
    clear HA HB GA GB
    go_wp2
    go_returns
    exact ⟨rfl, HT2.out.B⟩
set_option maxRecDepth 100000 in
set_option maxHeartbeats 16000000 in
theorem jle_yes (a b : HV) (ha : a.rightB = true) (hb : b.rightB = true) (hf : a.f = b.f) (hg2 : a.k + a.t = b.k + b.t) (w : World) : Calls Tryz.prog 63 #[a.val, b.val] w (Ret (.bool (leH a b)) w) := by
  have hr := shape_of ha
  have sz := right_size hr
  obtain ⟨g, hg⟩ : ∃ g, a.k + a.t = g := ⟨_, rfl⟩
  have HL := Lib.hid (leH_all ha hb hf hg2)
  rw [hg] at HL
  have h3 : (a.f != b.f) = false := by simpa using hf
  have HA : Hid (∀ W, Calls Tryz.prog 40 #[(HV.val a)] W (Ret (.bool true) W)) := fun W => jright_is ha W
  have HB : Hid (∀ W, Calls Tryz.prog 40 #[(HV.val b)] W (Ret (.bool true) W)) := fun W => jright_is hb W
  have GA : Hid (∀ W, Calls Tryz.prog 42 #[(HV.val a)] W (Ret (.int .i64 g) W)) := fun W => jgives_is a ha hg W
  have GB : Hid (∀ W, Calls Tryz.prog 42 #[(HV.val b)] W (Ret (.int .i64 g) W)) := fun W => jgives_is b hb (by omega) W
  have AA : Hid (∀ (i : Nat), (i : Int) < g → ∀ W, Calls Tryz.prog 43 #[(HV.val a), .int .i64 (i : Int)] W (Ret (.tuple #[.int .i64 (a.at i), .bool (decide ((i : Int) < a.k))]) W)) := fun i hi W => jat_is a ha i (by omega) (by omega) rfl rfl W
  have AB : Hid (∀ (i : Nat), (i : Int) < g → ∀ W, Calls Tryz.prog 43 #[(HV.val b), .int .i64 (i : Int)] W (Ret (.tuple #[.int .i64 (b.at i), .bool (decide ((i : Int) < b.k))]) W)) := fun i hi W => jat_is b hb i (by omega) (by omega) rfl rfl W
  have g4 : g ≤ 4 := by omega
  have g1 : 1 ≤ g := by omega
  clear hr sz ha hb hf hg hg2
  generalize leH a b = res at *
  go_enter Tryz.func63, Tryz.ntmps63
  go_wp2_with fail
  refine gen_world (fun W2 => Hid (T2 w W2 (hvRow a) (hvRow b))) (Lib.hid (T2.start _ _ _ _)) ?_
  rintro w1 HT
  have N_p := HT.out.a
  have L_p := rowOf_lt N_p
  have D_p := Nat.ne_of_lt L_p
  have N_q := HT.out.b
  have L_q := rowOf_lt N_q
  have D_q := Nat.ne_of_lt L_q
  refine wp_region_bx (by kernel_rfl) (by kernel_rfl) ?_
  have p_0 := bx_cell (rowOf_cell N_p 0 : _ = some (.int .i64 a.f))
  have p_1 := bx_cell (rowOf_cell N_p 1 : _ = some (.int .i64 a.k))
  have p_2 := bx_cell (rowOf_cell N_p 2 : _ = some (.int .i64 a.t))
  have p_3 := bx_cell (rowOf_cell N_p 3 : _ = some (.int .i64 a.a0))
  have p_4 := bx_cell (rowOf_cell N_p 4 : _ = some (.int .i64 a.a1))
  have p_5 := bx_cell (rowOf_cell N_p 5 : _ = some (.int .i64 a.a2))
  have p_6 := bx_cell (rowOf_cell N_p 6 : _ = some (.int .i64 a.a3))
  have p_7 := bx_cell (rowOf_cell N_p 7 : _ = some (.int .i64 a.b0))
  have p_8 := bx_cell (rowOf_cell N_p 8 : _ = some (.int .i64 a.b1))
  have p_9 := bx_cell (rowOf_cell N_p 9 : _ = some (.int .i64 a.b2))
  have p_10 := bx_cell (rowOf_cell N_p 10 : _ = some (.int .i64 a.b3))
  have q_0 := bx_cell (rowOf_cell N_q 0 : _ = some (.int .i64 b.f))
  have q_1 := bx_cell (rowOf_cell N_q 1 : _ = some (.int .i64 b.k))
  have q_2 := bx_cell (rowOf_cell N_q 2 : _ = some (.int .i64 b.t))
  have q_3 := bx_cell (rowOf_cell N_q 3 : _ = some (.int .i64 b.a0))
  have q_4 := bx_cell (rowOf_cell N_q 4 : _ = some (.int .i64 b.a1))
  have q_5 := bx_cell (rowOf_cell N_q 5 : _ = some (.int .i64 b.a2))
  have q_6 := bx_cell (rowOf_cell N_q 6 : _ = some (.int .i64 b.a3))
  have q_7 := bx_cell (rowOf_cell N_q 7 : _ = some (.int .i64 b.b0))
  have q_8 := bx_cell (rowOf_cell N_q 8 : _ = some (.int .i64 b.b1))
  have q_9 := bx_cell (rowOf_cell N_q 9 : _ = some (.int .i64 b.b2))
  have q_10 := bx_cell (rowOf_cell N_q 10 : _ = some (.int .i64 b.b3))
  clear N_p L_p D_p N_q L_q D_q
  repeat (first | go_big_quiet_step (first | (with_reducible exact Calls.bx (HA.out _)) | (with_reducible exact Calls.bx (HB.out _)) | (with_reducible exact Calls.bx (GA.out _)) | (with_reducible exact Calls.bx (GB.out _))) | quiet_step (first | (with_reducible exact Calls.bx (HA.out _)) | (with_reducible exact Calls.bx (HB.out _)) | (with_reducible exact Calls.bx (GA.out _)) | (with_reducible exact Calls.bx (GB.out _))))
  refine wpQuiet_nil ?_
  intro _ hw'
  obtain ⟨g9, hw''⟩ := hw'
  subst hw''
  have hb2 := g9.h
  generalize g9.w = w2 at hb2 ⊢
  clear g9
  have HT2 := Lib.hid (HT.out.below hb2)
  clear hb2 HT
  clear p_0 p_1 p_2 p_3 p_4 p_5 p_6 p_7 p_8 p_9 p_10 q_0 q_1 q_2 q_3 q_4 q_5 q_6 q_7 q_8 q_9 q_10
  clear HA HB GB
  have N_p := HT2.out.a
  have L_p := rowOf_lt N_p
  have D_p := Nat.ne_of_lt L_p
  have N_q := HT2.out.b
  have L_q := rowOf_lt N_q
  have D_q := Nat.ne_of_lt L_q
  go_wp2_with fail
  refine (GA.out _).mono ?_
  rintro e w3 ⟨rfl, hb3⟩
  have HT3 := Lib.hid (HT2.out.below hb3)
  clear hb3 HT2 GA
  clear N_p L_p D_p N_q L_q D_q
  go_wp2_with fail
  go_loopg [34] g.toNat (fun gg i wr => ∃ k : Nat, i = .int .i64 (k : Int) ∧ (k : Int) ≤ g ∧ g.toNat - k ≤ gg ∧ Hid (T2 w wr (hvRow a) (hvRow b)) ∧ Hid (∀ j : Nat, j < k → a.at j ≤ b.at j ∧ (a.k ≤ j ∨ (j : Int) < b.k)))
  case atStart => exact ⟨0, rfl, by omega, by omega, HT3.out, fun j hj => absurd hj (Nat.not_lt_zero _)⟩
  case round =>
    clear HT3
    obtain ⟨k, rfl, kg, hgg, HT, HP⟩ := hrel
    by_cases hlt : (k : Int) < g
    · have HCa := Lib.hid (AA.out k hlt)
      have HCb := Lib.hid (AB.out k hlt)
      have HNo : Hid (¬ (a.at k ≤ b.at k ∧ (a.k ≤ k ∨ (k : Int) < b.k)) → res = false) := fun n => by
        cases hres : res
        · rfl
        · exact absurd (HL.out.1 hres k hlt) n
      have HYes : Hid (a.at k ≤ b.at k ∧ (a.k ≤ k ∨ (k : Int) < b.k) → ∀ j : Nat, j < k + 1 → a.at j ≤ b.at j ∧ (a.k ≤ j ∨ (j : Int) < b.k)) := fun n j hj => by
        by_cases e : j = k
        · rw [e]; exact n
        · exact HP.out j (by omega)
      clear AA AB HL HP
      generalize a.at k = A at *
      generalize b.at k = B at *
      have N_p := HT.out.a
      have L_p := rowOf_lt N_p
      have D_p := Nat.ne_of_lt L_p
      have N_q := HT.out.b
      have L_q := rowOf_lt N_q
      have D_q := Nat.ne_of_lt L_q
      go_wp2_with fail
      refine (HCa.out _).mono ?_
      rintro e w4 ⟨rfl, hb4⟩
      have HT4 := Lib.hid (HT.out.below hb4)
      clear hb4 HT HCa
      clear N_p L_p D_p N_q L_q D_q
      have N_p := HT4.out.a
      have L_p := rowOf_lt N_p
      have D_p := Nat.ne_of_lt L_p
      have N_q := HT4.out.b
      have L_q := rowOf_lt N_q
      have D_q := Nat.ne_of_lt L_q
      go_wp2_with fail
      refine (HCb.out _).mono ?_
      rintro e w5 ⟨rfl, hb5⟩
      have HT5 := Lib.hid (HT4.out.below hb5)
      clear hb5 HT4 HCb
      clear N_p L_p D_p N_q L_q D_q
      by_cases h0 : A > B
      · have hq := HNo.out (by omega)
        subst hq
        clear HNo HYes
        generalize decide ((k : Int) < a.k) = fa
        generalize decide ((k : Int) < b.k) = fb
        go_wp2
        go_returns
        exact ⟨rfl, HT5.out.B⟩
      · by_cases h1 : (k : Int) < a.k
        · rw [show decide ((k : Int) < a.k) = true from decide_eq_true h1]
          by_cases h2 : (k : Int) < b.k
          · rw [show decide ((k : Int) < b.k) = true from decide_eq_true h2]
            have HP := Lib.hid (HYes.out (by omega))
            clear HNo HYes h1 h2
            go_wp2
            go_roundg (g.toNat - (k + 1))
            case measure => omega
            case rel => exact ⟨k + 1, by go_num, by omega, by omega, HT5.out, HP.out⟩
          · rw [show decide ((k : Int) < b.k) = false from decide_eq_false h2]
            have hq := HNo.out (by omega)
            subst hq
            clear HNo HYes h1 h2
            go_wp2
            go_returns
            exact ⟨rfl, HT5.out.B⟩
        · rw [show decide ((k : Int) < a.k) = false from decide_eq_false h1]
          have HP := Lib.hid (HYes.out (by omega))
          clear HNo HYes h1
          generalize decide ((k : Int) < b.k) = fb
          go_wp2
          go_roundg (g.toNat - (k + 1))
          case measure => omega
          case rel => exact ⟨k + 1, by go_num, by omega, by omega, HT5.out, HP.out⟩
    · have hq : res = true := HL.out.2 (fun j hj => HP.out j (by omega))
      subst hq
      clear AA AB HL HP
      go_wp2
      go_returns
      exact ⟨rfl, HT.out.B⟩
theorem jle_any (a b : HV) (w : World) : Calls Tryz.prog 63 #[a.val, b.val] w (Ret (.bool (leH a b)) w) := by
  cases hy : (a.rightB && b.rightB && (a.f == b.f) && (a.k + a.t == b.k + b.t))
  · rw [show leH a b = false by unfold leH; rw [hy]; rfl]
    exact jle_no a b hy w
  · simp only [Bool.and_eq_true, beq_iff_eq] at hy
    exact jle_yes a b hy.1.1.1 hy.1.1.2 hy.1.2 hy.2 w
end Go.Proofs.YtjaahmgokiobjaaGreat
