/- bytes that are being put: a row of the call's own, or a full one (OwnF); append of such; graph.small, graph.put, graph.putSigned -/
import Derived.Test.YtdhmoiiagplbpaaVc
import Derived.Test.YtdhmoiiagplbpaaWc
import Derived.Test.YtdhmoiiagplbpaaRowBlock
namespace Go.Proofs.Ytdhmoiiagplbpaa
open Go.RowKit
set_option linter.unusedVariables false
set_option linter.unusedSimpArgs false

/-- something was put behind v: it is v' now -/
structure Appd (w w' : World) (v v' : Value) : Prop where
  grown : w.grownBy w' v.ownBlock
  stays : StaysOrNew w v v'
namespace Appd
variable {w w1 w2 : World} {v v1 v2 : Value}
theorem refl (w : World) (v : Value) : Appd w w v v := ⟨⟨rfl, rfl, rfl, Nat.le_refl _, fun _ _ _ => rfl⟩, .inl rfl⟩
theorem apart (h : Appd w w1 v v1) {k : Nat} (hk : k < w.heap.size) (hn : v.ownBlock ≠ some k) : v1.ownBlock ≠ some k := fun e => by
  rcases h.stays with hs | hs
  · exact hn (hs ▸ e)
  · have := hs k e; omega
theorem trans (h : Appd w w1 v v1) (k : Appd w1 w2 v1 v2) : Appd w w2 v v2 := by
  refine ⟨⟨k.grown.os.trans h.grown.os, k.grown.tape.trans h.grown.tape, k.grown.output.trans h.grown.output, Nat.le_trans h.grown.size k.grown.size, fun i hi hn => ?_⟩, ?_⟩
  · exact (k.grown.block i (Nat.lt_of_lt_of_le hi h.grown.size) (fun e => h.apart hi (fun q => hn q.symm) e.symm)).trans (h.grown.block i hi hn)
  · rcases k.stays with hs | hs
    · rcases h.stays with ht | ht
      · exact .inl (hs.trans ht)
      · exact .inr fun j hj => ht j (hs ▸ hj)
    · exact .inr fun j hj => Nat.le_trans h.grown.size (hs j hj)
theorem ofBelow (hb : Below w.heap.size w w1) (v : Value) : Appd w w1 v v := ⟨⟨hb.os, hb.tape, hb.output, hb.size, fun k hk _ => hb.block k hk⟩, .inl rfl⟩
theorem below {B : Nat} {a : World} (h : Appd w w1 v v1) (hb : Below B a w) (hB : B ≤ w.heap.size) (hv : ∀ k, v.ownBlock = some k → B ≤ k) : Below B a w1 := hb.grown h.grown hB hv
theorem row {k : Nat} {c : Array Value} {t : TypeId} {f : Nat × Nat} (h : Appd w w1 v v1) (hr : w.heap[k]? = some (.cells c t f)) (hn : v.ownBlock ≠ some k) : w1.heap[k]? = some (.cells c t f) :=
  (h.grown.block k (Array.getElem?_eq_some_iff.1 hr).1 (fun e => hn e.symm)).trans hr
end Appd
theorem RowKind.Row.keep {α : Type} [Inhabited α] {R : RowKind α} {w w' : World} {b off : Nat} {xs : List α} (h : R.Row w b off xs) (e : w'.heap[b]? = w.heap[b]?) : R.Row w' b off xs :=
  fun j hj i u hu => (World.cell?_of_block e).trans (h j hj i u hu)
/-- v is a row of bytes of the call's own, or a full one -/
def OwnF (B : Nat) (w : World) (v : Value) (bs : List Int) : Prop := RB.Own B w v bs ∨ (bs ≠ [] ∧ ∃ b off, v = .slice (some ⟨b, off, none⟩) bs.length bs.length ∧ B ≤ b ∧ b < w.heap.size ∧ RB.Row w b off bs)
namespace OwnF
variable {B : Nat} {w w' : World} {v : Value} {bs : List Int}
theorem lt (h : OwnF B w v bs) : ∀ k, v.ownBlock = some k → B ≤ k ∧ k < w.heap.size := by
  rcases h with h | ⟨_, b, off, rfl, h1, h2, _⟩
  · exact RowKind.Own.lt h
  · intro k hk
    obtain rfl := Option.some.inj hk
    exact ⟨h1, h2⟩
theorem is (h : OwnF B w v bs) : RB.Is w v bs := by
  rcases h with h | ⟨hne, b, off, rfl, h1, h2, hr⟩
  · exact h.is
  · exact .inr ⟨hne, b, off, _, rfl, h2, hr⟩
theorem keepW (h : OwnF B w v bs) (hs : w.heap.size ≤ w'.heap.size) (hk : ∀ l, v.ownBlock = some l → w'.heap[l]? = w.heap[l]?) : OwnF B w' v bs := by
  rcases h with ⟨h1, h2⟩ | ⟨hne, b, off, rfl, h1, h2, hr⟩
  · refine .inl ⟨h1, ?_⟩
    rcases h2 with h2 | ⟨g, cap, cur, e, hB, hg, rest⟩
    · exact .inl h2
    · exact .inr ⟨g, cap, cur, e, hB, (hk g (by rw [e]; rfl)).trans hg, rest⟩
  · exact .inr ⟨hne, b, off, rfl, h1, Nat.lt_of_lt_of_le h2 hs, hr.keep (hk b rfl)⟩
theorem below (h : OwnF B w v bs) (hb : Below w.heap.size w w') : OwnF B w' v bs := h.keepW hb.size fun l hl => hb.block l (h.lt l hl).2
theorem alloc (h : OwnF B w v bs) (o : Obj) : OwnF B (w.alloc o) v bs := h.below ((Below.refl _ _).alloc (Nat.le_refl _) o)
/-- append of some bytes -/
theorem append {ops : Array Oper} {rest : List Oper} {o : Oper} {a : Act} {Q : Exit → Act → World → Prop} {vx : Value} {ys : List Int} (hgd : o.guard = none) (s x : Operand)
    (ho : o.op = .call { callee := .builtin .append, args := #[s, x], argTypes := #[RB.tS, RB.tS] }) (hown : OwnF B w v bs) (hs : a.eval s = v)
    (hx : a.eval x = vx) (his : RB.Is w vx ys) (hne : ys ≠ []) (hlen : bs.length + ys.length ≤ 1000000) (hbase : B ≤ w.heap.size)
    (h : ∀ v' w', OwnF B w' v' (bs ++ ys) → Appd w w' v v' → wpList Try.prog ops Q rest (a.put o.dst v') w') : wpList Try.prog ops Q (o :: rest) a w := by
  rcases his with ⟨e, _⟩ | ⟨_, b2, off2, cap2, rfl, hb2, hr2⟩
  · exact absurd e hne
  rcases hown with hown | ⟨hne2, b, off, rfl, h1, h2, hr⟩
  · exact RowKind.Own.appendB (R := RB) hgd s x ho hown hs ys hx hr2.app hlen hbase fun v' w' g1 g2 g3 => h v' w' (.inl g1) ⟨g2, g3⟩
  · obtain ⟨i0, hi, hz0, hz1, hz2⟩ := info_parts RB.info
    obtain ⟨a1, c1, e1, ha1⟩ := hr.app (c := bs.length)
    obtain ⟨a2, c2, e2, ha2⟩ := hr2.app (c := cap2)
    simp only [Value.slice.injEq, Option.some.injEq] at e1 e2
    obtain ⟨rfl, _, _⟩ := e1
    obtain ⟨rfl, _, _⟩ := e2
    have hpos : 0 < ys.length := List.length_pos_iff.2 hne
    obtain ⟨v', w', hrun, k1, k2⟩ := run_append_arg_grows (P := Try.prog) w RB.tS o.type RB.tE i0 RB.zero RB.k RB.bytes RB.under hi hz0 hz1 hz2 RB.zlen RB.k0 ⟨b, off, none⟩ bs.length bs.length (RB.cells bs) (RB.cells_len bs) ha1 ⟨b2, off2, none⟩ ys.length cap2 (RB.cells ys) (RB.cells_len ys) ha2 (by omega) (by unfold maxLen; omega) (RowKind.byt_ok hlen)
    refine wpList_plain hgd fun _ hK => RowKind.wp_of_runB ho (by rw [hs, hx]; exact hrun) (hK _ _ (h v' w' (.inl ?_) ⟨⟨k2.os, k2.tape, k2.output, k2.size, fun k hk _ => k2.block k hk (by simp)⟩, .inr fun k hk => (World.ownsRow.lt k1 k hk).1⟩))
    have k3 : RB.Own w.heap.size w' v' (bs ++ ys) := by
      unfold RowKind.Own
      rw [RowKind.cells_append, List.length_append]
      exact k1
    exact k3.mono hbase
end OwnF
/-- what puts bytes behind v answers -/
def PutR (B : Nat) (w : World) (v : Value) (bs : List Int) (e : Ending) (w' : World) : Prop := ∃ v', e = .returned v' ∧ OwnF B w' v' bs ∧ Appd w w' v v'
theorem bytes_ne (n : Nat) : bytesOf n ≠ [] := fun e => by have := bytes_pos n; rw [e] at this; simp at this
def flatN (xs : List Int) : List Int := xs.flatMap (fun x => bytesOf x.toNat)
theorem flatN_take (xs : List Int) (k : Nat) (hk : k < xs.length) : flatN (xs.take (k + 1)) = flatN (xs.take k) ++ bytesOf (xs[k]!).toNat := by
  unfold flatN
  rw [take_getA xs k hk, List.flatMap_append]
  simp
theorem flatN_len : ∀ (xs : List Int), (∀ x ∈ xs, 0 ≤ x ∧ x < 9223372036854775808) → (flatN xs).length ≤ 10 * xs.length
  | [], _ => by simp [flatN]
  | x :: xs, h => by
    have h1 := flatN_len xs (fun y hy => h y (by simp [hy]))
    have h2 := bytes_len10 (n := x.toNat) (by have := h x (by simp); omega)
    unfold flatN at *
    rw [List.flatMap_cons, List.length_append, List.length_cons]
    omega

set_option maxRecDepth 100000 in
set_option maxHeartbeats 4000000 in
theorem small_row (xs : List Int) (b off cap : Nat) (w : World) (hl : xs.length ≤ 900000) (hr : RN.Row w b off xs) :
    Calls Try.prog 38 #[.slice (some ⟨b, off, none⟩) xs.length cap] w (RetW (.bool (decide (∀ x ∈ xs, lowN x))) w) := by
  have HRow := Lib.hid (fun j (hj : j < xs.length) => atN hr j hj)
  have HNo := Lib.hid (fun j (hj : j < xs.length) (h : ¬ lowN xs[j]!) => show decide (∀ x ∈ xs, lowN x) = false from decide_eq_false (fun q => h (q _ (by rw [getElem!_pos xs j hj]; exact List.getElem_mem _))))
  have HYes := Lib.hid (fun (h : ∀ j, j < xs.length → lowN xs[j]!) => show decide (∀ x ∈ xs, lowN x) = true from decide_eq_true (fun x hx => by
    obtain ⟨j, hj, rfl⟩ := List.getElem_of_mem hx
    have := h j hj
    rw [getElem!_pos xs j hj] at this
    exact this))
  generalize decide (∀ x ∈ xs, lowN x) = res at *
  generalize hn : xs.length = n at *
  clear hr hn
  go_enter Try.func38, Try.ntmps38
  go_wp2
  go_loopg [7] n (fun gg i wr => ∃ k : Nat, k ≤ n ∧ n - k ≤ gg ∧ i = .int .i64 k ∧ w = wr ∧ Hid (∀ j, j < k → lowN xs[j]!))
  case atStart => exact ⟨0, Nat.zero_le _, by omega, rfl, rfl, fun j hj => absurd hj (by omega)⟩
  case round =>
    obtain ⟨k, hkn, hg, rfl, rfl, HC⟩ := hrel
    by_cases hlt : k < n
    · have hlz : (k : Int) < (n : Int) := by omega
      have hc := HRow.out k hlt
      have hno := HNo.out k hlt
      have hyes := fun (h : lowN xs[k]!) => show ∀ j, j < k + 1 → lowN xs[j]! from fun j hj => by
        by_cases e : j = k
        · subst e; exact h
        · exact HC.out j (by omega)
      generalize xs[k]! = x at hc hno hyes
      clear HC HRow HNo
      by_cases h0 : x < 0
      · have HR := Lib.hid (hno (fun q => by have := q.1; omega))
        clear hno hyes
        go_wp2
        go_returns
        exact ⟨ret_bool HR.out.symm, rfl⟩
      · by_cases h1 : x > 2147483647
        · have HR := Lib.hid (hno (fun q => by have := q.2; omega))
          clear hno hyes
          go_wp2
          go_returns
          exact ⟨ret_bool HR.out.symm, rfl⟩
        · have HR := Lib.hid (hyes ⟨by omega, by omega⟩)
          clear hno hyes
          go_wp2
          go_roundg (n - (k + 1))
          case measure => omega
          case rel => exact ⟨k + 1, by omega, by omega, by go_num, rfl, HR.out⟩
    · have hlz : ¬ (k : Int) < (n : Int) := by omega
      have HX := Lib.hid (HYes.out (fun j hj => HC.out j (by omega)))
      clear HC HRow HNo HYes
      go_wp2
      go_returns
      exact ⟨ret_bool HX.out.symm, rfl⟩
set_option maxHeartbeats 2000000 in
theorem small_nil (p : Option Addr) (cap : Nat) (w : World) : Calls Try.prog 38 #[.slice p 0 cap] w (RetW (.bool true) w) := by
  go_enter Try.func38, Try.ntmps38
  go_wp2
  refine wp_loop_rounds 1 ?_
  rw [rounds_succ]
  go_wp2
  go_returns
  exact ⟨rfl, rfl⟩
theorem small_any (xs : List Int) (v : Value) (w : World) (hl : xs.length ≤ 900000) (h : RN.Is w v xs) : Calls Try.prog 38 #[v] w (RetW (.bool (decide (∀ x ∈ xs, lowN x))) w) := by
  rcases h with ⟨rfl, p, cap, rfl, _⟩ | ⟨_, b, off, cap, rfl, hb, hr⟩
  · rw [decide_eq_true (fun x hx => absurd hx (by simp))]
    exact small_nil p cap w
  · exact small_row xs b off cap w hl hr

set_option maxRecDepth 100000 in
set_option maxHeartbeats 4000000 in
theorem put_any (xs : List Int) (B xb off cap : Nat) (v : Value) (bs : List Int) (w : World) (hx : RN.Row w xb off xs) (hxb : xb < w.heap.size) (hap : v.ownBlock ≠ some xb) (hv : ∀ x ∈ xs, 0 ≤ x ∧ x < 9223372036854775808) (hl : bs.length + 10 * xs.length ≤ 900000) (ho : OwnF B w v bs) (hB : B ≤ w.heap.size) :
    Calls Try.prog 40 #[v, .slice (some ⟨xb, off, none⟩) xs.length cap] w (PutR B w v (bs ++ flatN xs)) := by
  have HRow := Lib.hid (fun (wr : World) (u : Value) (h : Appd w wr v u) j (hj : j < xs.length) => atN (hx.keep (h.grown.block xb hxb (fun e => hap e.symm))) j hj)
  have HV := Lib.hid (fun j (hj : j < xs.length) => show 0 ≤ xs[j]! ∧ xs[j]! < 9223372036854775808 by rw [getElem!_pos xs j hj]; exact hv _ (List.getElem_mem _))
  have HT := Lib.hid (fun j (hj : j < xs.length) => flatN_take xs j hj)
  have HTn := Lib.hid (show flatN (xs.take xs.length) = flatN xs by rw [List.take_of_length_le (Nat.le_refl _)])
  have HL := Lib.hid (fun j (hj : j < xs.length) => show bs.length + (flatN (xs.take j)).length + 10 ≤ 900000 by
    have h1 := flatN_len (xs.take j) (fun x hx => hv x (List.mem_of_mem_take hx))
    rw [List.length_take] at h1
    omega)
  have HO := Lib.hid ho
  have HBs := Lib.hid hB
  have hn9 : xs.length ≤ 90000 := by omega
  clear hx hxb hap hv hl ho hB
  generalize hn : xs.length = n at *
  clear hn
  go_enter Try.func40, Try.ntmps40
  go_wp2
  go_loopg [0, 9] n (fun gg u9 i wr => ∃ (k : Nat) (u : Value), u = u9 ∧ k ≤ n ∧ n - k ≤ gg ∧ i = .int .i64 k ∧ Hid (OwnF B wr u (bs ++ flatN (xs.take k))) ∧ Hid (Appd w wr v u))
  case atStart => exact ⟨0, _, rfl, Nat.zero_le _, by omega, rfl, (by show OwnF B w v _; rw [List.take_zero]; show OwnF B w v (bs ++ []); rw [List.append_nil]; exact HO.out), Appd.refl _ _⟩
  case round =>
    clear HO
    obtain ⟨k, u, rfl, hkn, hg, rfl, HO, HA⟩ := hrel
    by_cases hlt : k < n
    · have hlz : (k : Int) < (n : Int) := by omega
      have hc := HRow.out wr u HA.out k hlt
      obtain ⟨hv0, hv1⟩ := HV.out k hlt
      have HTk := HT.out k hlt
      have hLk := HL.out k hlt
      clear HRow HV HT HTn HL
      generalize xs[k]! = x at *
      obtain ⟨m, rfl⟩ : ∃ m : Nat, x = (m : Int) := ⟨x.toNat, by omega⟩
      rw [Int.toNat_natCast] at HTk
      have HTk := Lib.hid HTk
      have hm : m < 18446744073709551616 := by omega
      have hw : IntKind.u64.wrap (m : Int) = (m : Int) := by rw [IntKind.wrap_u64]; omega
      have HU := Lib.hid (uint_any [] (.slice none 0 0) m wr (by simp) hm (RowKind.Is.nil wr))
      have HLb : Hid ((bs ++ flatN (xs.take k)).length + (bytesOf m).length ≤ 1000000) := by
        show _ ≤ _
        have := bytes_len10 hm
        rw [List.length_append]; omega
      have HBw : Hid (B ≤ wr.heap.size) := Nat.le_trans HBs.out HA.out.grown.size
      rw [List.nil_append] at HU
      clear hLk hv0 hv1 hm
      go_wp2_with fail
      refine (HU.out).mono ?_
      rintro ee w1 ⟨v1, rfl, hO1, hb1⟩
      have HO1 := Lib.hid hO1.is
      have HO2 := Lib.hid (HO.out.below hb1)
      have HA1 := Lib.hid (HA.out.trans (Appd.ofBelow hb1 u))
      have HB1 : Hid (B ≤ w1.heap.size) := Nat.le_trans HBw.out hb1.size
      clear hO1 hb1 HO HA HBw HU
      go_wp2_with (at_builtin; refine OwnF.append (B := B) (ys := bytesOf m) rfl _ _ rfl HO2.out rfl rfl HO1.out (bytes_ne m) HLb.out HB1.out ?_; intro v2 w2 hO3 hA3)
      have HA3 := Lib.hid (HA1.out.trans hA3)
      go_roundg (n - (k + 1))
      case measure => omega
      case rel => exact ⟨k + 1, _, rfl, by omega, by omega, by go_num, (by show OwnF _ _ _ _; rw [HTk.out, ← List.append_assoc]; exact hO3), HA3.out⟩
    · have hlz : ¬ (k : Int) < (n : Int) := by omega
      obtain rfl : k = n := by omega
      have hO := HO.out
      rw [HTn.out] at hO
      have HO3 := Lib.hid hO
      clear hO HO HRow HV HT HTn HL
      go_wp2
      go_returns
      exact ⟨_, rfl, HO3.out, HA.out⟩
set_option maxRecDepth 100000 in
set_option maxHeartbeats 4000000 in
theorem putS_any (k : Int) (B : Nat) (v : Value) (bs : List Int) (w : World) (hk : inR k) (hl : bs.length ≤ 900000) (ho : OwnF B w v bs) (hB : B ≤ w.heap.size) :
    Calls Try.prog 41 #[v, .int .i64 k] w (PutR B w v (bs ++ bytesOf (zig k))) := by
  have HU := Lib.hid (intB_any [] (.slice none 0 0) k w (by simp) hk.1 hk.2 (RowKind.Is.nil w))
  have HLb : Hid (bs.length + (bytesOf (zig k)).length ≤ 1000000) := by
    show _ ≤ _
    have := bytes_len10 (zig_lt hk.1 hk.2)
    omega
  have HO := Lib.hid ho
  have HBs := Lib.hid hB
  clear ho hB hk hl
  go_enter Try.func41, Try.ntmps41
  go_wp2_with fail
  refine (HU.out).mono ?_
  rintro ee w1 ⟨v1, rfl, hO1, hb1⟩
  rw [List.nil_append] at hO1
  have HO1 := Lib.hid hO1.is
  have HO2 := Lib.hid (HO.out.below hb1)
  have HA1 := Lib.hid (Appd.ofBelow hb1 v)
  have HB1 : Hid (B ≤ w1.heap.size) := Nat.le_trans HBs.out hb1.size
  clear hO1 hb1 HO HU
  go_wp2_with (at_builtin; refine OwnF.append (B := B) (ys := bytesOf (zig k)) rfl _ _ rfl HO2.out rfl rfl HO1.out (bytes_ne _) HLb.out HB1.out ?_; intro v2 w2 hO3 hA3)
  have HA3 := Lib.hid (HA1.out.trans hA3)
  go_returns
  exact ⟨_, rfl, hO3, HA3.out⟩
end Go.Proofs.Ytdhmoiiagplbpaa
