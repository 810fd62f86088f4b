/- NetFull's walk, over what the program's functions do -/
import Derived.Test.YtdgnblkoohakeaaUg
import Derived.Test.YtdgnblkoohakeaaUh
namespace Go.Proofs.Ytdgnblkoohakeaa
open Go.RowKit
set_option linter.unusedVariables false
set_option linter.unusedSimpArgs false

theorem small_one (e f t : Int) {l : List MV} (h : l.length ≤ 4000) : SmallN (oneB e f t l) := by
  by_cases q : l = []
  · rw [q, one_nil]; exact ⟨by simp, fun b hb => by cases hb⟩
  · rw [one_cons q]
    refine ⟨by simp, fun b hb => ?_⟩
    simp only [List.mem_singleton] at hb
    subst hb
    show l.length ≤ 5000
    omega
theorem one_length (e f t : Int) {l : List MV} (h : l ≠ []) : (oneB e f t l).length = 1 := by rw [one_cons h]; rfl
set_option maxRecDepth 100000 in
set_option maxHeartbeats 16000000 in
theorem netFull_walk (C : NetC) (e f t room ai : Int) (w : World) (he : 0 ≤ e ∧ e ≤ 255) (hf : 0 ≤ f ∧ f ≤ 255) (ht : 0 ≤ t ∧ t ≤ 255) (hr : 0 ≤ room ∧ room ≤ 255) (ha : 0 ≤ ai ∧ ai ≤ 255) :
    Calls Try.prog 5 #[.int .u8 e, .int .u8 f, .int .u8 t, .int .u8 room, .int .u8 ai] w (Ret (.bool true) w) := by
  have HA := Lib.hid (nawake_any C w)
  obtain ⟨N, hN⟩ : ∃ N : Nat, room % 100 = (N : Int) := ⟨(room % 100).toNat, by omega⟩
  have hN99 : N ≤ 99 := by omega
  have h0 : 0 ≤ e ∧ 0 ≤ f ∧ 0 ≤ t := ⟨he.1, hf.1, ht.1⟩
  have HPut : Hid (∀ (l : List MV) (n : Int) v W, l.length ≤ 4000 → (∀ m ∈ l, m.e = e) → IsBs W v (oneB e f t l) → capOk v → Calls Try.prog 8 #[v, .int .i64 f, .int .i64 t, .int .i64 (N : Int), .agg #[.int .i64 e, .int .i64 0, .int .i64 0, .int .i64 0, .int .i64 0, .int .i64 0, .int .i64 0, .int .i64 0, .int .i64 n, .int .i64 0]] W (fun x W' => ∃ u, x = .returned (.tuple #[u, .bool (decide ((l.length : Int) < (N : Int)))]) ∧ AnsB (oneB e f t l) v (if (l.length : Int) < (N : Int) then oneB e f t (l ++ [mkM e n]) else oneB e f t l) W W' u)) := fun l n v W hl hm hi hc => by
    have q := C.put (oneB e f t l) v f t (N : Int) (mkM e n) W (small_one e f t hl) hi hc
    rw [one_putOk h0 hl hm, one_put h0 hl hm] at q
    exact q
  have HLen : Hid (∀ (l : List MV) v W, l.length ≤ 4000 → (∀ m ∈ l, m.e = e) → IsBs W v (oneB e f t l) → capOk v → Calls Try.prog 15 #[v, .int .i64 e, .int .i64 f, .int .i64 t] W (Ret (.int .i64 (l.length : Int)) W)) := fun l v W hl hm hi hc => by
    have q := C.len (oneB e f t l) v e f t W (small_one e f t hl) hi hc
    rw [one_len h0 (by omega) hm] at q
    exact q
  have HTk : Hid (∀ (l : List MV) (i : Nat) v W, l.length ≤ 4000 → (∀ m ∈ l, m.e = e) → i < l.length → IsBs W v (oneB e f t l) → capOk v → Calls Try.prog 13 #[v, .int .i64 e, .int .i64 f, .int .i64 t, .int .i64 (i : Int)] W (fun x W' => ∃ u, x = .returned (.tuple #[u, MV.val l[i]!, .bool true]) ∧ AnsB (oneB e f t l) v (oneB e f t (l.eraseIdx i)) W W' u)) := fun l i v W hl hm hil hi hc => by
    have q := C.take (oneB e f t l) v e f t (i : Int) W (small_one e f t hl) hi hc
    rw [one_takeOk h0 (by omega) hm hil, one_take h0 (by omega) hm hil, one_takeM h0 (by omega) hm hil] at q
    exact q
  have HAl : Hid (∀ (l : List MV) v W, l.length ≤ 4000 → (∀ m ∈ l, m.e = e) → IsBs W v (oneB e f t l) → capOk v → Calls Try.prog 18 #[v] W (fun x W' => ∃ u, x = .returned u ∧ RM.Is W' u l ∧ Below W.heap.size W W')) := fun l v W hl hm hi hc => by
    have q := C.all (oneB e f t l) v W (small_one e f t hl) hi hc
    rw [one_all h0 (by omega) hm] at q
    exact q
  clear C h0
  go_enter Try.func5, Try.ntmps5
  go_wp2_with fail
  refine (HA.out).mono ?_
  rintro x w1 ⟨rfl, hb1⟩
  have HB1 := Lib.hid hb1
  clear hb1 HA
  go_upto_region 5 with (fail)
  simp only [hN]
  clear hN
  go_wp2_with fail
  go_loopg [15, 16] N (fun gg v iv wr => ∃ k : Nat, k ≤ N ∧ N - k ≤ gg ∧ iv = .int .i64 (k : Int) ∧ Hid (IsBs wr v (oneB e f t (msgsU e k))) ∧ Hid (capOk v) ∧ Hid (Below w.heap.size w wr))
  case atStart => exact ⟨0, Nat.zero_le _, by omega, rfl, IsBs.nil _, capNil, HB1.out⟩
  case round =>
    obtain ⟨k, hk, hg, rfl, HI, HC, HB⟩ := hrel
    rename World => wo
    by_cases hlt : k < N
    · have hkz : (k : Int) < (N : Int) := by omega
      have HPx := Lib.hid (HPut.out (msgsU e k) ((k : Int) + 1) _ wo (by rw [msgs_len]; omega) (msgs_edge e k) HI.out HC.out)
      rw [msgs_len, if_pos hkz, decide_eq_true hkz, ← msgs_succ] at HPx
      go_wp2_with fail
      refine (HPx.out).mono ?_
      rintro x w2 ⟨u2, rfl, hi2, hc2, hb2, _⟩
      have HI2 := Lib.hid hi2
      have HC2 := Lib.hid hc2
      have HB2 := Lib.hid (bcall HB.out hb2 HB.out.size)
      clear hi2 hc2 hb2 HPx
      go_wp2
      go_roundg (N - (k + 1))
      case measure => omega
      case rel => exact ⟨k + 1, by omega, by omega, by go_num, HI2.out, HC2.out, HB2.out⟩
    · obtain rfl : k = N := by omega
      have hkk : ¬ (k : Int) < (k : Int) := by omega
      have HPx := Lib.hid (HPut.out (msgsU e k) 0 _ wo (by rw [msgs_len]; omega) (msgs_edge e k) HI.out HC.out)
      rw [msgs_len, if_neg hkk, decide_eq_false hkk] at HPx
      clear hkk
      go_wp2_with fail
      refine (HPx.out).mono ?_
      rintro x w2 ⟨u2, rfl, hi2, hc2, hb2, _⟩
      have HI2 := Lib.hid hi2
      have HC2 := Lib.hid hc2
      have HB2 := Lib.hid (bcall HB.out hb2 HB.out.size)
      have HI1 := Lib.hid (HI.out.below hb2)
      have HLx := Lib.hid (HLen.out (msgsU e k) _ w2 (by rw [msgs_len]; omega) (msgs_edge e k) HI2.out HC2.out)
      rw [msgs_len] at HLx
      clear hi2 hc2 hb2 HPx HI HB
      go_wp2_with fail
      refine (HLx.out).mono ?_
      rintro x w3 ⟨rfl, hb3⟩
      have HB3 := Lib.hid (bcall HB2.out hb3 HB2.out.size)
      have HI3 := Lib.hid (HI1.out.below hb3)
      clear hb3 HLx
      by_cases hk0 : k = 0
      · subst hk0
        have hn0 : (oneB e f t (msgsU e 0)).length = 0 := rfl
        obtain ⟨p2, c2, rfl⟩ := HI2.out.slice
        rw [hn0]
        go_wp2
        go_returns
        exact ⟨rfl, HB3.out⟩
      · have hk0b : ((k : Int) == 0) = false := by simp; omega
        have hk0z : ¬ (k : Int) = 0 := by omega
        have hkp : (0 : Int) < (k : Int) := by omega
        obtain ⟨j, hj⟩ : ∃ j : Nat, ai.tmod (k : Int) = (j : Int) := ⟨(ai.tmod (k : Int)).toNat, by have := Int.tmod_nonneg (k : Int) ha.1; omega⟩
        have hjk : j < k := by have := Int.tmod_lt_of_pos ai hkp; omega
        have hje : ai % (k : Int) = (j : Int) := by rw [← hj]; exact (Int.tmod_eq_emod_of_nonneg ha.1).symm
        have HTx := Lib.hid (HTk.out (msgsU e k) j _ w3 (by rw [msgs_len]; omega) (msgs_edge e k) (by rw [msgs_len]; exact hjk) HI3.out HC.out)
        rw [msgs_get e hjk] at HTx
        have hEl : ((msgsU e k).eraseIdx j).length = k - 1 := by rw [List.length_eraseIdx, if_pos (by rw [msgs_len]; exact hjk), msgs_len]
        have HEe : Hid (∀ m ∈ (msgsU e k).eraseIdx j, m.e = e) := fun m hm => msgs_edge e k m (List.mem_of_mem_eraseIdx hm)
        have HEl := Lib.hid hEl
        generalize (msgsU e k).eraseIdx j = L at *
        clear HI1 HI2 HC2 HB2 hEl
        have hLk : L.length ≤ 4000 := by have := HEl.out; omega
        have hLz : (L.length : Int) < (k : Int) := by have := HEl.out; omega
        have hL2 : (L ++ [mkM e 1000]).length = k := by have := HEl.out; rw [List.length_append, List.length_singleton]; omega
        have HE2 : Hid (∀ m ∈ L ++ [mkM e 1000], m.e = e) := fun m hm => by
          rcases List.mem_append.1 hm with hm | hm
          · exact HEe.out m hm
          · simp only [List.mem_singleton] at hm; subst hm; rfl
        have hget : (L ++ [mkM e 1000])[k - 1]! = mkM e 1000 := by
          rw [getElem!_pos _ _ (by rw [hL2]; omega)]
          have := HEl.out
          simp [← this]
        have HP2 := Lib.hid (fun v W hi hc => HPut.out L 1000 v W hLk HEe.out hi hc)
        rw [if_pos hLz, decide_eq_true hLz] at HP2
        have hnz : ¬ ((L ++ [mkM e 1000]).length : Int) < (k : Int) := by omega
        have HP3 := Lib.hid (fun v W hi hc => HPut.out (L ++ [mkM e 1000]) 0 v W (by omega) HE2.out hi hc)
        rw [if_neg hnz, decide_eq_false hnz] at HP3
        have HL3 := Lib.hid (fun v W hi hc => HLen.out (L ++ [mkM e 1000]) v W (by omega) HE2.out hi hc)
        rw [hL2] at HL3
        have HA3 := Lib.hid (fun v W hi hc => HAl.out (L ++ [mkM e 1000]) v W (by omega) HE2.out hi hc)
        have HGt := Lib.hid hget
        have HL2 := Lib.hid hL2
        generalize L ++ [mkM e 1000] = M at *
        have hj1 : 0 ≤ ai % (k : Int) := by omega
        clear hLz hnz hget hL2 HPut HLen HTk HAl HE2 hLk
        go_upto_region 17 with (fail)
        go_wp2_with fail
        refine (HTx.out).mono ?_
        rintro x w4 ⟨u4, rfl, hi4, hc4, hb4, _⟩
        have HI4 := Lib.hid hi4
        have HC4 := Lib.hid hc4
        have HB4 := Lib.hid (bcall HB3.out hb4 HB3.out.size)
        clear hi4 hc4 hb4 HTx HI3 HB3
        go_upto_region 18 with (fail)
        refine gen_world (fun W3 => Below w4.heap.size w4 W3 ∧ W3.cell? ⟨w4.heap.size, 8, none⟩ = some (.int .i64 ((j : Int) + 1))) ⟨by first | exact (Below.refl _ _).alloc (Nat.le_refl _) _ | go_grown, by simp [mkM]⟩ ?_
        rintro w5 ⟨hb5, c8⟩
        have HB5 := Lib.hid (bcall HB4.out hb5 HB4.out.size)
        have HI5 := Lib.hid (HI4.out.below hb5)
        clear hb5 HI4 HB4
        go_wp2_with fail
        refine (HP2.out _ _ HI5.out HC4.out).mono ?_
        rintro x w6 ⟨u6, rfl, hi6, hc6, hb6, _⟩
        have HI6 := Lib.hid hi6
        have HC6 := Lib.hid hc6
        have HB6 := Lib.hid (bcall HB5.out hb6 HB5.out.size)
        clear hi6 hc6 hb6 HP2 HI5 HB5 c8 HC4
        go_wp2_with fail
        refine (HL3.out _ _ HI6.out HC6.out).mono ?_
        rintro x w7 ⟨rfl, hb7⟩
        have HI7 := Lib.hid (HI6.out.below hb7)
        have HB7 := Lib.hid (bcall HB6.out hb7 HB6.out.size)
        clear hb7 HL3 HI6 HB6
        go_wp2_with fail
        refine (HP3.out _ _ HI7.out HC6.out).mono ?_
        rintro x w8 ⟨u8, rfl, hi8, hc8, hb8, _⟩
        have HI8 := Lib.hid (HI7.out.below hb8)
        have HB8 := Lib.hid (bcall HB7.out hb8 HB7.out.size)
        clear hi8 hc8 hb8 HP3 HI7 HB7
        go_wp2_with fail
        refine (HA3.out _ _ HI8.out HC6.out).mono ?_
        rintro x w9 ⟨u9, rfl, hi9, hb9⟩
        have HB9 := Lib.hid (bcall HB8.out hb9 HB8.out.size)
        obtain ⟨p9, c9, rfl, ho9⟩ := isOpenedU hi9
        obtain ⟨b9, o9, rfl, hb9', hr9⟩ := ho9 (k - 1) (by have := HL2.out; omega)
        have c8 := (atM hr9 (k - 1) (by have := HL2.out; omega)).2.2.2.2.2.2.2.2.1
        rw [HGt.out] at c8
        have c8 : w9.cell? ⟨b9, o9 + (k - 1) * 10 + 8, none⟩ = some (.int .i64 1000) := c8
        rw [HL2.out]
        obtain ⟨k', rfl⟩ : ∃ k', k = k' + 1 := ⟨k - 1, by omega⟩
        rw [Nat.add_sub_cancel] at c8
        have hkk : (k' : Int) < ((k' + 1 : Nat) : Int) := by omega
        clear hi9 hb9 ho9 hr9 HA3 HI8 HB8
        go_wp2
        go_returns
        exact ⟨rfl, HB9.out⟩
end Go.Proofs.Ytdgnblkoohakeaa
