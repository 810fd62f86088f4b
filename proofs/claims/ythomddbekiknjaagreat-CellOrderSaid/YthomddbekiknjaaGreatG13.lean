/- the program's over, sum, ofOne, there -/
import Derived.Test.YthomddbekiknjaaGreatG06
import Derived.Test.YthomddbekiknjaaGreatG12
import Derived.Test.YthomddbekiknjaaGreatG03
import Derived.BigQuiet
namespace Go.Proofs.YthomddbekiknjaaGreat
open Go.RowKit
set_option linter.unusedVariables false
set_option linter.unusedSimpArgs false

set_option maxRecDepth 100000 in
set_option maxHeartbeats 4000000 in
theorem over_any (k : Int) (w : World) : Calls Tryz.prog 116 #[.int .i64 k] w (Ret (.agg #[.int .i64 k, .int .i64 (-9223372036854775806)]) w) := by
  go_enter Tryz.func116, Tryz.ntmps116
  go_wp2
  go_returns
  exact ⟨rfl, by go_grown⟩
theorem wrap_out {a b : Int} (ha : inR a) (hb : inR b) (h : ¬ inR (a + b)) : (b < 0 → a ≤ wrap64 (a + b)) ∧ (0 ≤ b → wrap64 (a + b) < a) := by
  unfold inR at *
  unfold wrap64
  omega
theorem wrap_not {a b : Int} (ha : inR a) (hb : inR b) (h : inR (a + b)) : (b < 0 → wrap64 (a + b) < a) ∧ (0 ≤ b → a ≤ wrap64 (a + b)) := by
  rw [wrap_in h]
  omega
set_option maxRecDepth 100000 in
set_option maxHeartbeats 4000000 in
theorem sum_any (k a b : Int) (w : World) (ha : inR a) (hb : inR b) : Calls Tryz.prog 97 #[.int .i64 k, .int .i64 a, .int .i64 b] w (Ret ((sumO k a b).val) w) := by
  have HO := Lib.hid (fun W => over_any k W)
  by_cases h : inR (a + b)
  · have hv : sumO k a b = ⟨k, a + b⟩ := by unfold sumO; rw [if_pos h]
    have q := wrap_not ha hb h
    rw [wrap_in h] at q
    rw [hv]
    have hw' : wrap64 (a + b) = a + b := wrap_in h
    clear HO
    by_cases hb0 : b < 0
    · have h1 : decide (a + b < a) = true := decide_eq_true (q.1 hb0)
      have h2 : decide (b < 0) = true := decide_eq_true hb0
      clear ha hb hv h hb0 q
      go_enter Tryz.func97, Tryz.ntmps97
      go_wp2
      go_returns
      exact ⟨rfl, by go_grown⟩
    · have h1 : decide (a + b < a) = false := decide_eq_false (by have := q.2 (by omega); omega)
      have h2 : decide (b < 0) = false := decide_eq_false hb0
      clear ha hb hv h hb0 q
      go_enter Tryz.func97, Tryz.ntmps97
      go_wp2
      go_returns
      exact ⟨rfl, by go_grown⟩
  · have hv : sumO k a b = ⟨k, -9223372036854775806⟩ := by unfold sumO; rw [if_neg h]; rfl
    rw [hv]
    have q := wrap_out ha hb h
    generalize hx' : wrap64 (a + b) = x at q
    have rest : ∀ (h1 : decide (x < a) = !decide (b < 0)), Calls Tryz.prog 97 #[.int .i64 k, .int .i64 a, .int .i64 b] w (Ret (.agg #[.int .i64 k, .int .i64 (-9223372036854775806)]) w) := fun h1 => by
      clear q h hv ha hb
      have hbx := Boxed.new w #[.int .i64 0, .int .i64 0] 27
      generalize hd : decide (b < 0) = d at h1
      cases d
      all_goals
        simp only [Bool.not_true, Bool.not_false] at h1
        go_enter Tryz.func97, Tryz.ntmps97
        go_wp2_with fail
        refine (HO.out _).mono ?_
        rintro e w1 ⟨rfl, hb1⟩
        have HB := Lib.hid (bcall (B := w.heap.size) (a := w) (by go_grown) hb1 (by go_size))
        have hb2 := hbx.below hb1 (by simp)
        have c0 : w1.cell? ⟨w.heap.size, 0, none⟩ = some (.int .i64 0) := hb2.cell 0
        have c1 : w1.cell? ⟨w.heap.size, 1, none⟩ = some (.int .i64 0) := hb2.cell 1
        have f0 := hb2.frozen 0
        have f1 := hb2.frozen 1
        have L0 : w.heap.size < w1.heap.size := hb2.lt
        have s0 : ∀ v, (w1.setCell ⟨w.heap.size, 0, none⟩ v).cell? ⟨w.heap.size, 0, none⟩ = some v := fun v => World.cell?_setCell_same' _ _ _ (by rw [c0]; rfl)
        clear hb2 hb1 hbx HO
        go_wp2
        refine bodyPost_ret (v := .agg #[.int .i64 k, .int .i64 (-9223372036854775806)]) (by simp [results, go_sem, s0, c1]) rfl ⟨rfl, (HB.out.setCell (by simp) _).setCell (by simp) _⟩
    exact rest (by
      by_cases hb0 : b < 0
      · rw [decide_eq_true hb0, decide_eq_false (by have := q.1 hb0; omega)]; rfl
      · rw [decide_eq_false hb0, decide_eq_true (q.2 (by omega))]; rfl)
end Go.Proofs.YthomddbekiknjaaGreat
/- the program's ofOne -/
namespace Go.Proofs.YthomddbekiknjaaGreat
open Go.RowKit
set_option linter.unusedVariables false
set_option linter.unusedSimpArgs false

theorem one_lit (w : World) (k v : Int) (B : Nat) (hB : B ≤ w.heap.size) : RR.Own B (w.alloc (.cells #[.int .i64 k, .int .i64 v] 27)) (.slice (some ⟨w.heap.size, 0, none⟩) 1 1) [⟨k, v⟩] :=
  ⟨rfl, .inr ⟨w.heap.size, 1, #[.int .i64 k, .int .i64 v], rfl, hB, heap_alloc_new w _, Nat.le_refl 1, by decide, rfl, rfl⟩⟩
set_option maxRecDepth 100000 in
set_option maxHeartbeats 8000000 in
theorem pone_any (k s arg : Int) (q : Option Addr) (c : Nat) (p : List NV) (r : RV) (w : World) (hl : k = 2 → p.length ≤ 900000) (h : RC.Is w (.slice q p.length c) p) (hpn : ∀ x ∈ p, inR x.n) (hk : inR r.k) (hv : inR r.v) (ha : inR arg) :
    Calls Tryz.prog 87 #[.agg #[.int .i64 k, .int .i64 s, .int .i64 arg, .slice q p.length c], r.val] w (RR.Made (oneO k arg p r) w) := by
  have HR : Hid (k = 2 → ∀ W, Below w.heap.size w W → Calls Tryz.prog 96 #[.slice q p.length c, r.val] W (RunR p r W)) := fun hk2 W hW => pRun_any p _ r.k r.v W (hl hk2) (h.below hW) hpn hk hv
  have HS : Hid (∀ W, Calls Tryz.prog 97 #[.int .i64 r.k, .int .i64 r.v, .int .i64 arg] W (Ret ((sumO r.k r.v arg).val) W)) := fun W => sum_any _ _ _ W hv ha
  clear h hpn hk hv ha
  have HB0 := Lib.hid ((Below.refl w.heap.size w).alloc (Nat.le_refl _) (.cells #[.int .i64 k, .int .i64 s, .int .i64 arg, .slice q p.length c] 47))
  generalize hm : p.length = m at *
  clear hm hl
  have HN : Hid (∀ W, Below w.heap.size w W → RR.Made [] w (.returned (.slice none 0 0)) W) := fun W hW => ⟨_, rfl, RowKind.Own.nil RR _ _, hW⟩
  have HL : Hid (∀ W x y, Below w.heap.size w W → RR.Made [⟨x, y⟩] w (.returned (.slice (some ⟨W.heap.size, 0, none⟩) 1 1)) (W.alloc (.cells #[.int .i64 x, .int .i64 y] 27))) := fun W x y hW => ⟨_, rfl, one_lit W x y _ hW.size, hW.alloc hW.size _⟩
  have HL' : Hid (∀ W x y n, W.heap.size = n → Below w.heap.size w W → RR.Made [⟨x, y⟩] w (.returned (.slice (some ⟨n, 0, none⟩) 1 1)) (W.alloc (.cells #[.int .i64 x, .int .i64 y] 27))) := fun W x y n hn hW => by subst hn; exact HL.out W x y hW
  have HB1 : Hid (Below w.heap.size w ((w.alloc (.cells #[.int .i64 k, .int .i64 s, .int .i64 arg, .slice q m c] 47)).alloc (.cells #[.int .i64 r.k, .int .i64 r.v] 27))) := HB0.out.alloc HB0.out.size _
  obtain ⟨rk, rv⟩ := r
  by_cases h2 : k = 2
  · subst h2
    rw [show oneO 2 arg p ⟨rk, rv⟩ = (runC p ⟨rk, rv⟩).1 from if_pos rfl]
    go_enter Tryz.func87, Tryz.ntmps87
    go_wp2_with fail
    refine (HR.out (by first | trivial | rfl) _ HB1.out).mono ?_
    rintro e w1 ⟨v1, rfl, ho1, hb1⟩
    have HO := Lib.hid (ho1.mono HB1.out.size)
    have HB := Lib.hid (bstep HB1.out hb1 HB1.out.size)
    clear ho1 hb1 HR HS
    go_wp2
    go_returns
    exact ⟨v1, rfl, HO.out, HB.out⟩
  have k2 : (k == 2) = false := by simpa using h2
  by_cases h3 : k = 3
  · subst h3
    rw [show oneO 3 arg p ⟨rk, rv⟩ = [sumO rk rv arg] from rfl]
    generalize hsu : sumO rk rv arg = su at *
    obtain ⟨sk, sv⟩ := su
    clear hsu
    go_enter Tryz.func87, Tryz.ntmps87
    go_wp2_with fail
    refine (HS.out _).mono ?_
    rintro e w1 ⟨rfl, hb1⟩
    have HB := Lib.hid (bstep HB1.out hb1 HB1.out.size)
    clear hb1 HR HS
    go_wp2
    go_returns
    exact HL.out _ _ _ HB.out
  have k3 : (k == 3) = false := by simpa using h3
  by_cases h4 : k = 4
  · subst h4
    by_cases ha : arg < 1
    · rw [show oneO 4 arg p ⟨rk, rv⟩ = [] by unfold oneO; simp [ha]]
      clear HR HS
      go_enter Tryz.func87, Tryz.ntmps87
      go_wp2
      go_returns
      exact HN.out _ HB1.out
    · have hne : ¬ arg = 0 := by omega
      have hnb : (arg == 0) = false := by simpa using hne
      by_cases hd : rv.tmod arg = 0
      · rw [show oneO 4 arg p ⟨rk, rv⟩ = [⟨rk, rv⟩] by unfold oneO; simp [ha, hd]]
        clear HR HS
        go_enter Tryz.func87, Tryz.ntmps87
        go_wp2
        go_returns
        refine HL'.out _ rk rv _ ?_ HB1.out; rw [World.size_alloc, World.size_alloc]
      · rw [show oneO 4 arg p ⟨rk, rv⟩ = [] by unfold oneO; simp [hd]]
        have hdb : (rv.tmod arg != 0) = true := by simpa using hd
        clear HR HS
        go_enter Tryz.func87, Tryz.ntmps87
        go_wp2
        go_returns
        exact HN.out _ HB1.out
  · have k4 : (k == 4) = false := by simpa using h4
    rw [show oneO k arg p ⟨rk, rv⟩ = [⟨rk, rv⟩] by unfold oneO; rw [if_neg h2, if_neg h3, if_neg h4]]
    clear HR HS h2 h3 h4
    go_enter Tryz.func87, Tryz.ntmps87
    go_wp2
    go_returns
    refine HL'.out _ rk rv _ ?_ HB1.out; rw [World.size_alloc, World.size_alloc]
end Go.Proofs.YthomddbekiknjaaGreat
/- the program's many, there -/
namespace Go.Proofs.YthomddbekiknjaaGreat
open Go.RowKit
set_option linter.unusedVariables false
set_option linter.unusedSimpArgs false

theorem many_bd {xs : List IV} (h : ∀ c ∈ xs, 0 ≤ c.n ∧ c.n ≤ 2147483648) : 0 ≤ manyO xs ∧ manyO xs ≤ xs.length * 2147483648 := by
  induction xs with
  | nil => simp [manyO]
  | cons c xs ih =>
    have h1 := h c (by simp)
    have h2 := ih fun d hd => h d (by simp [hd])
    rw [manyO_cons, List.length_cons]
    omega
theorem many_next {xs : List IV} {k : Nat} (hk : k < xs.length) : manyO (xs.take (k + 1)) = manyO (xs.take k) + xs[k]!.n := by
  rw [take_getA xs k hk, manyO_append]
  simp [manyO]
theorem getA_mem {α : Type} [Inhabited α] {xs : List α} {k : Nat} (hk : k < xs.length) : xs[k]! ∈ xs := by
  rw [getElem!_pos xs k hk]
  exact List.getElem_mem hk
set_option maxRecDepth 100000 in
set_option maxHeartbeats 4000000 in
theorem many_row (xs : List IV) (b off cap : Nat) (w : World) (hl : xs.length ≤ 900000) (hb : b < w.heap.size) (hr : RI.Row w b off xs) (hq : ∀ c ∈ xs, 0 ≤ c.n ∧ c.n ≤ 2147483648) :
    Calls Tryz.prog 118 #[.slice (some ⟨b, off, none⟩) xs.length cap] w (Ret (.int .i64 (manyO xs)) w) := by
  have hrow : Hid (∀ (W : World), Below w.heap.size w W → ∀ j, j < xs.length → _) := fun W hW j hj => atI (hr.below hW hb) j hj
  have hstep : Hid (∀ k, k < xs.length → wrap64 (manyO (xs.take k) + xs[k]!.n) = manyO (xs.take (k + 1))) := fun k hk => by
    have h1 := many_bd (xs := xs.take k) fun c hc => hq c (List.mem_of_mem_take hc)
    have h2 := hq _ (getA_mem hk)
    rw [List.length_take, Nat.min_eq_left (by omega)] at h1
    rw [many_next hk]
    refine wrap_in ?_
    unfold inR
    omega
  have hfin : Hid (manyO (xs.take xs.length) = manyO xs) := by rw [List.take_length]; exact rfl
  have h0 : Hid (manyO (xs.take 0) = 0) := rfl
  generalize hres : manyO xs = res at hfin ⊢
  generalize hn : xs.length = n at hl hrow hstep hfin
  clear hr hq hres hn
  go_enter Tryz.func118, Tryz.ntmps118
  go_wp2
  go_loopg [3, 8] n (fun gg v i wr => ∃ k : Nat, k ≤ n ∧ n - k ≤ gg ∧ i = .int .i64 k ∧ v = .int .i64 (manyO (xs.take k)) ∧ Hid (Below w.heap.size w wr))
  case atStart => exact ⟨0, Nat.zero_le _, by omega, rfl, by rw [h0.out], Below.refl _ _⟩
  case round =>
    obtain ⟨k, hkn, hg, rfl, rfl, HB⟩ := hrel
    by_cases hlt : k < n
    · have hlz : (k : Int) < (n : Int) := by omega
      have hc := hrow.out wr HB.out k hlt
      have hs := hstep.out k hlt
      generalize manyO (xs.take k) = a at hs
      generalize hy : manyO (xs.take (k + 1)) = y at hs
      generalize xs[k]! = c at hc hs
      obtain ⟨t, m⟩ := c
      obtain ⟨e0, e1, e2⟩ := hc
      simp only at e0 e1 e2 hs
      have HBn := Lib.hid ((HB.out).alloc HB.out.size (.cells #[.int .i64 t.k, .int .i64 t.v, .int .i64 m] 57))
      have HY := Lib.hid hy
      clear hrow hstep hfin h0 hy
      go_wp2
      go_roundg (n - (k + 1))
      case measure => omega
      case rel => exact ⟨k + 1, by omega, by omega, by go_num, by rw [HY.out, hs], HBn.out⟩
    · have hlz : ¬ (k : Int) < (n : Int) := by omega
      have : k = n := by omega
      subst this
      have hf := hfin.out
      rw [hf]
      clear hrow hstep hfin h0 hf
      go_wp2
      go_returns
      exact ⟨rfl, HB.out⟩
set_option maxRecDepth 100000 in
set_option maxHeartbeats 4000000 in
theorem many_nil (p : Option Addr) (cap : Nat) (w : World) : Calls Tryz.prog 118 #[.slice p 0 cap] w (Ret (.int .i64 (manyO [])) w) := by
  rw [show manyO [] = 0 from rfl]
  go_enter Tryz.func118, Tryz.ntmps118
  go_wp2
  refine wp_loop_rounds 1 ?_
  rw [rounds_succ]
  go_wp2
  go_returns
  exact ⟨rfl, Below.refl _ _⟩
theorem many_any (xs : List IV) (v : Value) (w : World) (hl : xs.length ≤ 900000) (h : RI.Is w v xs) (hq : ∀ c ∈ xs, 0 ≤ c.n ∧ c.n ≤ 2147483648) : Calls Tryz.prog 118 #[v] w (Ret (.int .i64 (manyO xs)) w) := by
  rcases h with ⟨rfl, p, cap, rfl, _⟩ | ⟨h0, b, off, cap, rfl, hb, hr⟩
  · exact many_nil p cap w
  · exact many_row xs b off cap w hl hb hr hq
end Go.Proofs.YthomddbekiknjaaGreat
