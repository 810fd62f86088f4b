/- the program's Le on steps: the whole walk -/
import Derived.Test.YtacmdkbmakfdkaaG05
import Derived.Test.YtacmdkbmakfdkaaG04
import Derived.Test.YtacmdkbmakfdkaaG31
namespace Go.Proofs.Ytacmdkbmakfdkaa
open Go.RowKit
set_option linter.unusedVariables false
set_option linter.unusedSimpArgs false
attribute [local go_sem ↓] loadH loadT storeH storeT
attribute [local simp] size_setRow
attribute [local go_sem] rowAt_head rowOf_alloc_at rowOf_alloc_past rowOf_drew rowOf_drewN rowOf_setRow_same rowOf_setRow_other rowOf_setCell_same rowOf_setCell_other size_setRow setRow_drew setRow_alloc_at setRow_alloc_past one_int one_bool cell_setRow_same cell_setRow_other frozen_setRow_same frozen_setRow_other
attribute [local go_sem ↓] run_imin

/-- the parameters' boxes -/
structure T2 (w W : World) (pa pb : Array Value) : Prop where
  B : Below w.heap.size w W
  a : rowOf W w.heap.size = some pa
  b : rowOf W (w.heap.size + 1) = some pb
theorem T2.below {w W W' : World} {pa pb : Array Value} (h : T2 w W pa pb) (hb : Below W.heap.size W W') : T2 w W' pa pb :=
  ⟨bstep h.B hb h.B.size, rowOf_below h.a hb (rowOf_lt h.a), rowOf_below h.b hb (rowOf_lt h.b)⟩
theorem T2.start {w : World} (pa pb : Array Value) (ta tb : TypeId) : T2 w ((w.alloc (.cells pa ta)).alloc (.cells pb tb)) pa pb :=
  ⟨((Below.refl _ _).alloc (Nat.le_refl _) _).alloc (by simp) _, row_old (row_new rfl), row_new (by simp)⟩
theorem leH_all {a b : HV} (ha : a.rightB = true) (hb : b.rightB = true) (hf : a.f = b.f) (hg : a.k + a.t = b.k + b.t) :
    leH a b = true ↔ ∀ j : Nat, (j : Int) < a.k + a.t → a.at j ≤ b.at j ∧ (a.k ≤ j ∨ (j : Int) < b.k) := by
  have s := right_size (shape_of ha)
  rw [leH_eq, decide_eq_true_eq]
  constructor
  · rintro ⟨_, _, _, _, h0, h1, h2, h3⟩ j hj
    have : j = 0 ∨ j = 1 ∨ j = 2 ∨ j = 3 := by omega
    rcases this with rfl | rfl | rfl | rfl
    · exact h0 hj
    · exact h1 hj
    · exact h2 hj
    · exact h3 hj
  · intro h
    exact ⟨ha, hb, hf, hg, fun q => h 0 q, fun q => h 1 q, fun q => h 2 q, fun q => h 3 q⟩
set_option maxRecDepth 100000 in
set_option maxHeartbeats 16000000 in
theorem jle_no (a b : HV) (hy : (a.rightB && b.rightB && (a.f == b.f) && (a.k + a.t == b.k + b.t)) = false) (w : World) : Calls Try.prog 60 #[a.val, b.val] w (Ret (.bool false) w) := by
  have HA : Hid (∀ W, Calls Try.prog 29 #[(HV.val a)] W (Ret (.bool a.rightB) W)) := fun W => jright_is rfl W
  have HB : Hid (∀ W, Calls Try.prog 29 #[(HV.val b)] W (Ret (.bool b.rightB) W)) := fun W => jright_is rfl W
  have GA : Hid (a.rightB = true → ∀ W, Calls Try.prog 30 #[(HV.val a)] W (Ret (.int .i64 (a.k + a.t)) W)) := fun h W => jgives_is a h rfl W
  have GB : Hid (b.rightB = true → ∀ W, Calls Try.prog 30 #[(HV.val b)] W (Ret (.int .i64 (b.k + b.t)) W)) := fun h W => jgives_is b h rfl W
  have hcase : (a.rightB = false) ∨ (a.rightB = true ∧ b.rightB = false) ∨ (a.rightB = true ∧ b.rightB = true ∧ (a.f != b.f) = true) ∨ (a.rightB = true ∧ b.rightB = true ∧ (a.f != b.f) = false ∧ (a.k + a.t != b.k + b.t) = true) := by
    cases h1 : a.rightB
    · exact .inl rfl
    · cases h2 : b.rightB
      · exact .inr (.inl ⟨rfl, rfl⟩)
      · rw [h1, h2] at hy
        cases h3 : a.f != b.f
        · refine .inr (.inr (.inr ⟨rfl, rfl, rfl, ?_⟩))
          have : a.f = b.f := by simpa using h3
          rw [this] at hy
          simpa using hy
        · exact .inr (.inr (.inl ⟨rfl, rfl, rfl⟩))
  clear hy
  generalize a.rightB = ra at *
  generalize b.rightB = rb at *
  generalize a.k + a.t = ga at *
  generalize b.k + b.t = gb at *
  go_enter Try.func60, Try.ntmps60
  go_wp2_with fail
  refine gen_world (fun W2 => Hid (T2 w W2 (hvRow a) (hvRow b))) (Lib.hid (T2.start _ _ _ _)) ?_
  rintro w1 HT
  have N_p := HT.out.a
  have L_p := rowOf_lt N_p
  have D_p := Nat.ne_of_lt L_p
  have N_q := HT.out.b
  have L_q := rowOf_lt N_q
  have D_q := Nat.ne_of_lt L_q
  refine wp_region_bx (by kernel_rfl) (by kernel_rfl) ?_
  have p_0 := bx_cell (rowOf_cell N_p 0 : _ = some (.int .i64 a.f))
  have p_1 := bx_cell (rowOf_cell N_p 1 : _ = some (.int .i64 a.k))
  have p_2 := bx_cell (rowOf_cell N_p 2 : _ = some (.int .i64 a.t))
  have p_3 := bx_cell (rowOf_cell N_p 3 : _ = some (.int .i64 a.a0))
  have p_4 := bx_cell (rowOf_cell N_p 4 : _ = some (.int .i64 a.a1))
  have p_5 := bx_cell (rowOf_cell N_p 5 : _ = some (.int .i64 a.a2))
  have p_6 := bx_cell (rowOf_cell N_p 6 : _ = some (.int .i64 a.a3))
  have p_7 := bx_cell (rowOf_cell N_p 7 : _ = some (.int .i64 a.b0))
  have p_8 := bx_cell (rowOf_cell N_p 8 : _ = some (.int .i64 a.b1))
  have p_9 := bx_cell (rowOf_cell N_p 9 : _ = some (.int .i64 a.b2))
  have p_10 := bx_cell (rowOf_cell N_p 10 : _ = some (.int .i64 a.b3))
  have q_0 := bx_cell (rowOf_cell N_q 0 : _ = some (.int .i64 b.f))
  have q_1 := bx_cell (rowOf_cell N_q 1 : _ = some (.int .i64 b.k))
  have q_2 := bx_cell (rowOf_cell N_q 2 : _ = some (.int .i64 b.t))
  have q_3 := bx_cell (rowOf_cell N_q 3 : _ = some (.int .i64 b.a0))
  have q_4 := bx_cell (rowOf_cell N_q 4 : _ = some (.int .i64 b.a1))
  have q_5 := bx_cell (rowOf_cell N_q 5 : _ = some (.int .i64 b.a2))
  have q_6 := bx_cell (rowOf_cell N_q 6 : _ = some (.int .i64 b.a3))
  have q_7 := bx_cell (rowOf_cell N_q 7 : _ = some (.int .i64 b.b0))
  have q_8 := bx_cell (rowOf_cell N_q 8 : _ = some (.int .i64 b.b1))
  have q_9 := bx_cell (rowOf_cell N_q 9 : _ = some (.int .i64 b.b2))
  have q_10 := bx_cell (rowOf_cell N_q 10 : _ = some (.int .i64 b.b3))
  clear N_p L_p D_p N_q L_q D_q
  rcases hcase with h1 | ⟨h1, h2⟩ | ⟨h1, h2, h3⟩ | ⟨h1, h2, h3, h4⟩
  all_goals
    (try subst h1); (try subst h2)
    repeat (first | go_big_quiet_step (first | (with_reducible exact Calls.bx (HA.out _)) | (with_reducible exact Calls.bx (HB.out _)) | (with_reducible exact Calls.bx (GA.out rfl _)) | (with_reducible exact Calls.bx (GB.out rfl _))) | quiet_step (first | (with_reducible exact Calls.bx (HA.out _)) | (with_reducible exact Calls.bx (HB.out _)) | (with_reducible exact Calls.bx (GA.out rfl _)) | (with_reducible exact Calls.bx (GB.out rfl _))))
    refine wpQuiet_nil ?_
    intro _ hw'
    obtain ⟨g9, hw''⟩ := hw'
    subst hw''
    have hb2 := g9.h
    generalize g9.w = w2 at hb2 ⊢
    clear g9
    have HT2 := Lib.hid (HT.out.below hb2)
    clear hb2 HT
    clear p_0 p_1 p_2 p_3 p_4 p_5 p_6 p_7 p_8 p_9 p_10 q_0 q_1 q_2 q_3 q_4 q_5 q_6 q_7 q_8 q_9 q_10
    clear HA HB GA GB
    go_wp2
    go_returns
    exact ⟨rfl, HT2.out.B⟩
set_option maxRecDepth 100000 in
set_option maxHeartbeats 16000000 in
theorem jle_yes (a b : HV) (ha : a.rightB = true) (hb : b.rightB = true) (hf : a.f = b.f) (hg2 : a.k + a.t = b.k + b.t) (w : World) : Calls Try.prog 60 #[a.val, b.val] w (Ret (.bool (leH a b)) w) := by
  have hr := shape_of ha
  have sz := right_size hr
  obtain ⟨g, hg⟩ : ∃ g, a.k + a.t = g := ⟨_, rfl⟩
  have HL := Lib.hid (leH_all ha hb hf hg2)
  rw [hg] at HL
  have h3 : (a.f != b.f) = false := by simpa using hf
  have HA : Hid (∀ W, Calls Try.prog 29 #[(HV.val a)] W (Ret (.bool true) W)) := fun W => jright_is ha W
  have HB : Hid (∀ W, Calls Try.prog 29 #[(HV.val b)] W (Ret (.bool true) W)) := fun W => jright_is hb W
  have GA : Hid (∀ W, Calls Try.prog 30 #[(HV.val a)] W (Ret (.int .i64 g) W)) := fun W => jgives_is a ha hg W
  have GB : Hid (∀ W, Calls Try.prog 30 #[(HV.val b)] W (Ret (.int .i64 g) W)) := fun W => jgives_is b hb (by omega) W
  have AA : Hid (∀ (i : Nat), (i : Int) < g → ∀ W, Calls Try.prog 31 #[(HV.val a), .int .i64 (i : Int)] W (Ret (.tuple #[.int .i64 (a.at i), .bool (decide ((i : Int) < a.k))]) W)) := fun i hi W => jat_is a ha i (by omega) (by omega) rfl rfl W
  have AB : Hid (∀ (i : Nat), (i : Int) < g → ∀ W, Calls Try.prog 31 #[(HV.val b), .int .i64 (i : Int)] W (Ret (.tuple #[.int .i64 (b.at i), .bool (decide ((i : Int) < b.k))]) W)) := fun i hi W => jat_is b hb i (by omega) (by omega) rfl rfl W
  have g4 : g ≤ 4 := by omega
  have g1 : 1 ≤ g := by omega
  clear hr sz ha hb hf hg hg2
  generalize leH a b = res at *
  go_enter Try.func60, Try.ntmps60
  go_wp2_with fail
  refine gen_world (fun W2 => Hid (T2 w W2 (hvRow a) (hvRow b))) (Lib.hid (T2.start _ _ _ _)) ?_
  rintro w1 HT
  have N_p := HT.out.a
  have L_p := rowOf_lt N_p
  have D_p := Nat.ne_of_lt L_p
  have N_q := HT.out.b
  have L_q := rowOf_lt N_q
  have D_q := Nat.ne_of_lt L_q
  refine wp_region_bx (by kernel_rfl) (by kernel_rfl) ?_
  have p_0 := bx_cell (rowOf_cell N_p 0 : _ = some (.int .i64 a.f))
  have p_1 := bx_cell (rowOf_cell N_p 1 : _ = some (.int .i64 a.k))
  have p_2 := bx_cell (rowOf_cell N_p 2 : _ = some (.int .i64 a.t))
  have p_3 := bx_cell (rowOf_cell N_p 3 : _ = some (.int .i64 a.a0))
  have p_4 := bx_cell (rowOf_cell N_p 4 : _ = some (.int .i64 a.a1))
  have p_5 := bx_cell (rowOf_cell N_p 5 : _ = some (.int .i64 a.a2))
  have p_6 := bx_cell (rowOf_cell N_p 6 : _ = some (.int .i64 a.a3))
  have p_7 := bx_cell (rowOf_cell N_p 7 : _ = some (.int .i64 a.b0))
  have p_8 := bx_cell (rowOf_cell N_p 8 : _ = some (.int .i64 a.b1))
  have p_9 := bx_cell (rowOf_cell N_p 9 : _ = some (.int .i64 a.b2))
  have p_10 := bx_cell (rowOf_cell N_p 10 : _ = some (.int .i64 a.b3))
  have q_0 := bx_cell (rowOf_cell N_q 0 : _ = some (.int .i64 b.f))
  have q_1 := bx_cell (rowOf_cell N_q 1 : _ = some (.int .i64 b.k))
  have q_2 := bx_cell (rowOf_cell N_q 2 : _ = some (.int .i64 b.t))
  have q_3 := bx_cell (rowOf_cell N_q 3 : _ = some (.int .i64 b.a0))
  have q_4 := bx_cell (rowOf_cell N_q 4 : _ = some (.int .i64 b.a1))
  have q_5 := bx_cell (rowOf_cell N_q 5 : _ = some (.int .i64 b.a2))
  have q_6 := bx_cell (rowOf_cell N_q 6 : _ = some (.int .i64 b.a3))
  have q_7 := bx_cell (rowOf_cell N_q 7 : _ = some (.int .i64 b.b0))
  have q_8 := bx_cell (rowOf_cell N_q 8 : _ = some (.int .i64 b.b1))
  have q_9 := bx_cell (rowOf_cell N_q 9 : _ = some (.int .i64 b.b2))
  have q_10 := bx_cell (rowOf_cell N_q 10 : _ = some (.int .i64 b.b3))
  clear N_p L_p D_p N_q L_q D_q
  repeat (first | go_big_quiet_step (first | (with_reducible exact Calls.bx (HA.out _)) | (with_reducible exact Calls.bx (HB.out _)) | (with_reducible exact Calls.bx (GA.out _)) | (with_reducible exact Calls.bx (GB.out _))) | quiet_step (first | (with_reducible exact Calls.bx (HA.out _)) | (with_reducible exact Calls.bx (HB.out _)) | (with_reducible exact Calls.bx (GA.out _)) | (with_reducible exact Calls.bx (GB.out _))))
  refine wpQuiet_nil ?_
  intro _ hw'
  obtain ⟨g9, hw''⟩ := hw'
  subst hw''
  have hb2 := g9.h
  generalize g9.w = w2 at hb2 ⊢
  clear g9
  have HT2 := Lib.hid (HT.out.below hb2)
  clear hb2 HT
  clear p_0 p_1 p_2 p_3 p_4 p_5 p_6 p_7 p_8 p_9 p_10 q_0 q_1 q_2 q_3 q_4 q_5 q_6 q_7 q_8 q_9 q_10
  clear HA HB GB
  have N_p := HT2.out.a
  have L_p := rowOf_lt N_p
  have D_p := Nat.ne_of_lt L_p
  have N_q := HT2.out.b
  have L_q := rowOf_lt N_q
  have D_q := Nat.ne_of_lt L_q
  go_wp2_with fail
  refine (GA.out _).mono ?_
  rintro e w3 ⟨rfl, hb3⟩
  have HT3 := Lib.hid (HT2.out.below hb3)
  clear hb3 HT2 GA
  clear N_p L_p D_p N_q L_q D_q
  go_wp2_with fail
  go_loopg [34] g.toNat (fun gg i wr => ∃ k : Nat, i = .int .i64 (k : Int) ∧ (k : Int) ≤ g ∧ g.toNat - k ≤ gg ∧ Hid (T2 w wr (hvRow a) (hvRow b)) ∧ Hid (∀ j : Nat, j < k → a.at j ≤ b.at j ∧ (a.k ≤ j ∨ (j : Int) < b.k)))
  case atStart => exact ⟨0, rfl, by omega, by omega, HT3.out, fun j hj => absurd hj (Nat.not_lt_zero _)⟩
  case round =>
    clear HT3
    obtain ⟨k, rfl, kg, hgg, HT, HP⟩ := hrel
    by_cases hlt : (k : Int) < g
    · have HCa := Lib.hid (AA.out k hlt)
      have HCb := Lib.hid (AB.out k hlt)
      have HNo : Hid (¬ (a.at k ≤ b.at k ∧ (a.k ≤ k ∨ (k : Int) < b.k)) → res = false) := fun n => by
        cases hres : res
        · rfl
        · exact absurd (HL.out.1 hres k hlt) n
      have HYes : Hid (a.at k ≤ b.at k ∧ (a.k ≤ k ∨ (k : Int) < b.k) → ∀ j : Nat, j < k + 1 → a.at j ≤ b.at j ∧ (a.k ≤ j ∨ (j : Int) < b.k)) := fun n j hj => by
        by_cases e : j = k
        · rw [e]; exact n
        · exact HP.out j (by omega)
      clear AA AB HL HP
      generalize a.at k = A at *
      generalize b.at k = B at *
      have N_p := HT.out.a
      have L_p := rowOf_lt N_p
      have D_p := Nat.ne_of_lt L_p
      have N_q := HT.out.b
      have L_q := rowOf_lt N_q
      have D_q := Nat.ne_of_lt L_q
      go_wp2_with fail
      refine (HCa.out _).mono ?_
      rintro e w4 ⟨rfl, hb4⟩
      have HT4 := Lib.hid (HT.out.below hb4)
      clear hb4 HT HCa
      clear N_p L_p D_p N_q L_q D_q
      have N_p := HT4.out.a
      have L_p := rowOf_lt N_p
      have D_p := Nat.ne_of_lt L_p
      have N_q := HT4.out.b
      have L_q := rowOf_lt N_q
      have D_q := Nat.ne_of_lt L_q
      go_wp2_with fail
      refine (HCb.out _).mono ?_
      rintro e w5 ⟨rfl, hb5⟩
      have HT5 := Lib.hid (HT4.out.below hb5)
      clear hb5 HT4 HCb
      clear N_p L_p D_p N_q L_q D_q
      by_cases h0 : A > B
      · have hq := HNo.out (by omega)
        subst hq
        clear HNo HYes
        generalize decide ((k : Int) < a.k) = fa
        generalize decide ((k : Int) < b.k) = fb
        go_wp2
        go_returns
        exact ⟨rfl, HT5.out.B⟩
      · by_cases h1 : (k : Int) < a.k
        · rw [show decide ((k : Int) < a.k) = true from decide_eq_true h1]
          by_cases h2 : (k : Int) < b.k
          · rw [show decide ((k : Int) < b.k) = true from decide_eq_true h2]
            have HP := Lib.hid (HYes.out (by omega))
            clear HNo HYes h1 h2
            go_wp2
            go_roundg (g.toNat - (k + 1))
            case measure => omega
            case rel => exact ⟨k + 1, by go_num, by omega, by omega, HT5.out, HP.out⟩
          · rw [show decide ((k : Int) < b.k) = false from decide_eq_false h2]
            have hq := HNo.out (by omega)
            subst hq
            clear HNo HYes h1 h2
            go_wp2
            go_returns
            exact ⟨rfl, HT5.out.B⟩
        · rw [show decide ((k : Int) < a.k) = false from decide_eq_false h1]
          have HP := Lib.hid (HYes.out (by omega))
          clear HNo HYes h1
          generalize decide ((k : Int) < b.k) = fb
          go_wp2
          go_roundg (g.toNat - (k + 1))
          case measure => omega
          case rel => exact ⟨k + 1, by go_num, by omega, by omega, HT5.out, HP.out⟩
    · have hq : res = true := HL.out.2 (fun j hj => HP.out j (by omega))
      subst hq
      clear AA AB HL HP
      go_wp2
      go_returns
      exact ⟨rfl, HT.out.B⟩
theorem jle_any (a b : HV) (w : World) : Calls Try.prog 60 #[a.val, b.val] w (Ret (.bool (leH a b)) w) := by
  cases hy : (a.rightB && b.rightB && (a.f == b.f) && (a.k + a.t == b.k + b.t))
  · rw [show leH a b = false by unfold leH; rw [hy]; rfl]
    exact jle_no a b hy w
  · simp only [Bool.and_eq_true, beq_iff_eq] at hy
    exact jle_yes a b hy.1.1.1 hy.1.1.2 hy.1.2 hy.2 w
end Go.Proofs.Ytacmdkbmakfdkaa
/- a row of the call's own: an element is stored in its place; the rest of it is cleared and cut off -/
namespace Go.Proofs.Ytacmdkbmakfdkaa
open Go.RowKit
set_option linter.unusedVariables false
set_option linter.unusedSimpArgs false
set_option linter.unusedSectionVars false

theorem run_storeCells_at (P : Program) (b o : Nat) : ∀ (vs : List Value) (i : Nat) (w : World) (c : Array Value), rowOf w b = some c → o + i + vs.length ≤ c.size → (∀ v ∈ vs, v.oneCell' = true) →
    (storeCells ⟨b, o, none⟩ vs i).run P w = .ok () (setRow w b (putFrom c (o + i) vs))
  | [], i, w, c, hc, _, _ => by rw [putFrom, setRow_self hc]; rfl
  | v :: rest, i, w, c, hc, hn, ho => by
    simp only [List.length_cons] at hn
    have hi : o + i < c.size := by omega
    have hcell : w.cell? ⟨b, o + i, none⟩ = some c[o + i] := by rw [rowOf_cell hc]; exact Array.getElem?_eq_getElem hi
    have hst : (store ((⟨b, o, none⟩ : Addr).add i) v).run P w = .ok () (w.setCell ⟨b, o + i, none⟩ v) := by
      rw [Addr.add_lit, run_store P w _ v _ (ho v (by simp)), hcell]
      simp only [rowOf_frozen hc]
      rfl
    have hrow : rowOf (w.setCell ⟨b, o + i, none⟩ v) b = some (c.setIfInBounds (o + i) v) := by rw [rowOf_setCell_same, hc]; rfl
    have ih := run_storeCells_at P b o rest (i + 1) (w.setCell ⟨b, o + i, none⟩ v) (c.setIfInBounds (o + i) v) hrow (by simp; omega) (fun x hx => ho x (by simp [hx]))
    rw [storeCells, Sem.run_bind, hst]
    show (storeCells ⟨b, o, none⟩ rest (i + 1)).run P (w.setCell ⟨b, o + i, none⟩ v) = _
    rw [ih, setCell_row hc, setRow_setRow]
    rfl
theorem grown_setRow (w : World) (g : Nat) (c : Array Value) : w.grownBy (setRow w g c) (some g) :=
  ⟨rfl, rfl, rfl, by rw [size_setRow]; exact Nat.le_refl _, fun k _ hne => heap_setRow w g c k fun e => hne (by rw [e])⟩
namespace RowKind
section
variable {α : Type} [Inhabited α] {R : RowKind α}
theorem Own.row {B : Nat} {w : World} {g n cap : Nat} {xs : List α} (h : R.Own B w (.slice (some ⟨g, 0, none⟩) n cap) xs) :
    ∃ cur, w.heap[g]? = some (.cells cur R.tE (0, 0)) ∧ n = xs.length ∧ B ≤ g ∧ xs.length ≤ cap ∧ cap ≤ maxLen ∧ cur.size = cap * R.k ∧ cur.toList.take (xs.length * R.k) = R.cells xs := by
  obtain ⟨h1, h2⟩ := h
  rcases h2 with ⟨e, _⟩ | ⟨g', cap', cur, e, hB, hg, hc, hm, hs, ht⟩
  · cases e
  · simp only [Value.slice.injEq, Option.some.injEq, Addr.mk.injEq, and_true] at e
    obtain ⟨e1, e2, e3⟩ := e
    subst e1; subst e3
    exact ⟨cur, hg, e2, hB, hc, hm, hs, ht⟩
theorem Own.rowOf {B : Nat} {w : World} {g n cap : Nat} {xs : List α} {cur : Array Value} (hg : w.heap[g]? = some (.cells cur R.tE (0, 0))) : Go.Proofs.Ytacmdkbmakfdkaa.rowOf w g = some cur := by
  unfold Go.Proofs.Ytacmdkbmakfdkaa.rowOf
  rw [hg]
  simp
theorem heap_set {w : World} {g : Nat} {cur c : Array Value} {t : TypeId} (hg : w.heap[g]? = some (.cells cur t (0, 0))) : (setRow w g c).heap[g]? = some (.cells c t (0, 0)) := by
  simp [setRow, Array.getElem?_modify, hg]
theorem cells_at {xs : List α} {t : Nat} (ht : t < xs.length * R.k) : (R.cells xs)[t]? = (R.enc xs[t / R.k]!)[t % R.k]? := by
  have hk := R.k0
  have e : t = t / R.k * R.k + t % R.k := by rw [Nat.mul_comm]; exact (Nat.div_add_mod t R.k).symm
  have hq : t / R.k < xs.length := Nat.div_lt_of_lt_mul (by rw [Nat.mul_comm]; exact ht)
  have := R.cells_get xs (t / R.k) hq (t % R.k) (Nat.mod_lt _ hk)
  rw [← e] at this
  exact this
theorem Own.setAt {B : Nat} {w : World} {g n cap : Nat} {xs : List α} (h : R.Own B w (.slice (some ⟨g, 0, none⟩) n cap) xs) {i : Nat} (hi : i < xs.length) (x : α) {cur : Array Value} (hg : w.heap[g]? = some (.cells cur R.tE (0, 0))) :
    R.Own B (setRow w g (putFrom cur (i * R.k) (R.enc x))) (.slice (some ⟨g, 0, none⟩) n cap) (xs.set i x) := by
  obtain ⟨cur', hg', hn, hB, hc, hm, hs, ht⟩ := h.row
  rw [hg] at hg'
  simp only [Option.some.injEq, Obj.cells.injEq, and_true] at hg'
  subst hg'
  have hk := R.k0
  have hle : (i + 1) * R.k ≤ cap * R.k := Nat.mul_le_mul_right _ (by omega)
  rw [Nat.add_mul, Nat.one_mul] at hle
  refine ⟨R.cells_len _, .inr ⟨g, cap, putFrom cur (i * R.k) (R.enc x), by rw [List.length_set, hn], hB, heap_set hg, by rw [List.length_set]; exact hc, hm, by rw [size_putFrom, hs], ?_⟩⟩
  rw [List.length_set]
  refine List.ext_getElem? fun t => ?_
  rw [List.getElem?_take]
  split
  · rename_i hlt
    rw [Array.getElem?_toList, get_putFrom _ _ _ _ (by rw [R.len]; omega), R.len, cells_at (by rw [List.length_set]; exact hlt)]
    have e : t = t / R.k * R.k + t % R.k := by rw [Nat.mul_comm]; exact (Nat.div_add_mod t R.k).symm
    have hmod := Nat.mod_lt t hk
    by_cases hq : t / R.k = i
    · rw [if_pos (by rw [← hq]; omega), hq, getElem!_pos _ i (by rw [List.length_set]; exact hi), List.getElem_set_self]
      congr 1
      rw [← hq]
      omega
    · have hne : ¬ (i * R.k ≤ t ∧ t < i * R.k + R.k) := by
        rintro ⟨q1, q2⟩
        apply hq
        have := (Nat.le_div_iff_mul_le hk).2 q1
        have := (Nat.div_lt_iff_lt_mul hk).2 (show t < (i + 1) * R.k by rw [Nat.add_mul]; omega)
        omega
      have hql : t / R.k < xs.length := Nat.div_lt_of_lt_mul (by rw [Nat.mul_comm]; exact hlt)
      have hl : (xs.set i x)[t / R.k]! = xs[t / R.k]! := by
        rw [getElem!_pos _ _ (by rw [List.length_set]; exact hql), getElem!_pos xs _ hql, List.getElem_set_ne (Ne.symm hq)]
      rw [if_neg hne, hl, ← cells_at hlt, ← ht, List.getElem?_take, if_pos hlt, Array.getElem?_toList]
  · rename_i hlt
    rw [List.getElem?_eq_none (by rw [R.cells_len, List.length_set]; omega)]
theorem Own.clearAt {B : Nat} {w : World} {g n cap : Nat} {xs : List α} (h : R.Own B w (.slice (some ⟨g, 0, none⟩) n cap) xs) {i : Nat} (hi : i ≤ xs.length) {zs : List Value} (hz : zs.length = (xs.length - i) * R.k) {cur : Array Value} (hg : w.heap[g]? = some (.cells cur R.tE (0, 0))) :
    R.Own B (setRow w g (putFrom cur (i * R.k) zs)) (.slice (some ⟨g, 0, none⟩) i cap) (xs.take i) := by
  obtain ⟨cur', hg', hn, hB, hc, hm, hs, ht⟩ := h.row
  rw [hg] at hg'
  simp only [Option.some.injEq, Obj.cells.injEq, and_true] at hg'
  subst hg'
  have hk := R.k0
  have hlen : (xs.take i).length = i := by rw [List.length_take]; omega
  have hmul : i * R.k + (xs.length - i) * R.k = xs.length * R.k := by rw [← Nat.add_mul]; congr 1; omega
  have hle : xs.length * R.k ≤ cap * R.k := Nat.mul_le_mul_right _ hc
  refine ⟨R.cells_len _, .inr ⟨g, cap, putFrom cur (i * R.k) zs, by rw [hlen], hB, heap_set hg, by rw [hlen]; omega, hm, by rw [size_putFrom, hs], ?_⟩⟩
  rw [hlen]
  refine List.ext_getElem? fun t => ?_
  rw [List.getElem?_take]
  split
  · rename_i hlt
    rw [Array.getElem?_toList, get_putFrom _ _ _ _ (by rw [hz]; omega), if_neg (by omega), cells_at (by rw [hlen]; exact hlt)]
    have hql : t / R.k < i := Nat.div_lt_of_lt_mul (by rw [Nat.mul_comm]; exact hlt)
    have hl : (xs.take i)[t / R.k]! = xs[t / R.k]! := by
      rw [getElem!_pos _ _ (by rw [hlen]; exact hql), getElem!_pos xs _ (by omega), List.getElem_take]
    rw [hl, ← cells_at (by omega), ← ht, List.getElem?_take, if_pos (by omega), Array.getElem?_toList]
  · rename_i hlt
    rw [List.getElem?_eq_none (by rw [R.cells_len, hlen]; omega)]
/-- an element (a whole struct) is stored in its place -/
theorem Own.storeAt {ops : Array Oper} {rest : List Oper} {o : Oper} {a : Act} {Q : Exit → Act → World → Prop} {w : World} {B : Nat} {g n cap : Nat} {xs : List α} (h : R.Own B w (.slice (some ⟨g, 0, none⟩) n cap) xs)
    (hsz : ∀ w, (Go.sizeOf R.tE).run Try.prog w = .ok R.k w) {i : Nat} (hi : i < xs.length) (u : α) (hgd : o.guard = none) (x y : Operand) (ho : o.op = .store R.tE x y) (hx : a.eval x = .pointer (some ⟨g, i * R.k, none⟩)) (hy : a.eval y = .agg (R.enc u).toArray)
    (hk : ∀ w', R.Own B w' (.slice (some ⟨g, 0, none⟩) n cap) (xs.set i u) → w.grownBy w' (some g) → wpList Try.prog ops Q rest (a.put o.dst undef) w') : wpList Try.prog ops Q (o :: rest) a w := by
  obtain ⟨cur, hg, hn, hB, hc, hm, hs, ht⟩ := h.row
  have hle : (i + 1) * R.k ≤ cap * R.k := Nat.mul_le_mul_right _ (by omega)
  rw [Nat.add_mul, Nat.one_mul] at hle
  have hst := run_storeCells_at Try.prog g (i * R.k) (R.enc u) 0 w cur (Own.rowOf (R := R) (B := B) (n := n) (cap := cap) (xs := xs) hg) (by rw [R.len, hs]; omega) (R.one u)
  refine wpList_plain hgd fun _ hK => ?_
  have hrun : (Instr.storeAt R.tE (.pointer (some ⟨g, i * R.k, none⟩)) (.agg (R.enc u).toArray)).run Try.prog w = .ok () (setRow w g (putFrom cur (i * R.k) (R.enc u))) := by
    simp [Instr.storeAt, Instr.sureAddr, storeVar, Sem.run_bind, hsz, Result.andThen, Value.cells, R.len, hst]
  unfold Oper.wp execOp
  simp only [ho, hx, hy, Sem.run_bind, hrun, Result.andThen, Sem.run_pure, Oper.upon_skip]
  exact hK _ _ (hk _ (h.setAt hi u hg) (grown_setRow _ _ _))
/-- what is behind the first i elements is cleared -/
theorem Own.clearL {ops : Array Oper} {rest : List Oper} {o : Oper} {a : Act} {Q : Exit → Act → World → Prop} {w : World} {B : Nat} {g n cap : Nat} {xs : List α} (h : R.Own B w (.slice (some ⟨g, 0, none⟩) n cap) xs)
    (hzv : ∀ w, (zeroValue R.tE).run Try.prog w = .ok R.zero w) (hz1 : ∀ u ∈ R.zero.cells.toList, u.oneCell' = true) {i c : Nat} (hi : i ≤ xs.length) (hgd : o.guard = none) (x : Operand) (ho : o.op = .call { callee := .builtin .clear, args := #[x], argTypes := #[R.tS] })
    (hx : a.eval x = .slice (some ⟨g, i * R.k, none⟩) (xs.length - i) c)
    (hk : ∀ w', R.Own B w' (.slice (some ⟨g, 0, none⟩) i cap) (xs.take i) → w.grownBy w' (some g) → wpList Try.prog ops Q rest (a.put o.dst (.tuple #[])) w') : wpList Try.prog ops Q (o :: rest) a w := by
  obtain ⟨cur, hg, hn, hB, hc, hm, hs, ht⟩ := h.row
  have hle : xs.length * R.k ≤ cap * R.k := Nat.mul_le_mul_right _ hc
  have hmul : i * R.k + (xs.length - i) * R.k = xs.length * R.k := by rw [← Nat.add_mul]; congr 1; omega
  have hzl : (Builtin.zeroCells R.zero.cells (xs.length - i)).toList.length = (xs.length - i) * R.k := by
    simp [Builtin.zeroCells, R.zlen]
  have hrun : ∃ w', (Builtin.clear_ #[R.tS] o.type #[.slice (some ⟨g, i * R.k, none⟩) (xs.length - i) c]).run Try.prog w = .ok (.tuple #[]) w' ∧ R.Own B w' (.slice (some ⟨g, 0, none⟩) i cap) (xs.take i) ∧ w.grownBy w' (some g) := by
    by_cases hz : xs.length - i = 0
    · refine ⟨w, ?_, ?_, ⟨rfl, rfl, rfl, Nat.le_refl _, fun _ _ _ => rfl⟩⟩
      · rw [hz]
        simp [Builtin.clear_, run_underlying R.under]
      · obtain rfl : i = xs.length := by omega
        rw [List.take_length]
        rw [hn] at h
        exact h
    · have hst := run_storeCells_at Try.prog g (i * R.k) (Builtin.zeroCells R.zero.cells (xs.length - i)).toList 0 w cur (Own.rowOf (R := R) (B := B) (n := n) (cap := cap) (xs := xs) hg) (by rw [hzl, hs]; omega) (fun v hv => by
        simp only [Builtin.zeroCells, Array.toList_map, List.mem_map, Array.toList_range, List.mem_range] at hv
        obtain ⟨j, hj, rfl⟩ := hv
        have hlt : j % R.zero.cells.size < R.zero.cells.size := Nat.mod_lt _ (by rw [R.zlen]; exact R.k0)
        rw [getElem!_pos R.zero.cells _ hlt]
        exact hz1 _ (by rw [← Array.getElem_toList]; exact List.getElem_mem _))
      refine ⟨_, ?_, h.clearAt hi hzl hg, grown_setRow _ _ _⟩
      obtain ⟨m, hm'⟩ : ∃ m, xs.length - i = m + 1 := ⟨xs.length - i - 1, by omega⟩
      rw [hm'] at hst ⊢
      simp [Builtin.clear_, run_underlying R.under, hzv, hst]
  obtain ⟨w', hr, h1, h2⟩ := hrun
  refine wpList_plain hgd fun _ hK => ?_
  unfold Oper.wp execOp
  simp only [ho, resolve, invoke, builtin, Sem.run_bind, Sem.run_pure, Result.andThen_ok, List.map_toArray, List.map_cons, List.map_nil, hx, hr]
  exact hK _ _ (hk _ h1 h2)
end
end RowKind
end Go.Proofs.Ytacmdkbmakfdkaa
