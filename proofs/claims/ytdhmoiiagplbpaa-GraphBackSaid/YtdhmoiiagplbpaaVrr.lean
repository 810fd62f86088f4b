import Derived.Test.YtdhmoiiagplbpaaVp
import Derived.Test.YtdhmoiiagplbpaaWe
import Derived.Test.YtdhmoiiagplbpaaVaa
import Derived.Test.YtdhmoiiagplbpaaVzd
import Derived.Test.YtdhmoiiagplbpaaVo
import Derived.Test.YtdhmoiiagplbpaaVq
import Derived.Test.YtdhmoiiagplbpaaVg
/- the program's reader of bytes: its box (RX); fail, unsigned, signed -/
namespace Go.Proofs.Ytdhmoiiagplbpaa
open Go.RowKit
set_option linter.unusedVariables false
set_option linter.unusedSimpArgs false

/-- the reader's box: the bytes that are left, the error -/
def RX (w0 W : World) (rw : Nat) (xs : List Int) (at' e : Nat) : Prop :=
  ∃ p c, W.heap[rw]? = some (.cells #[.slice p (xs.length - at') c, .int .i64 (e : Int)] 65 (0, 0)) ∧ RB.Is w0 (.slice p (xs.length - at') c) (xs.drop at') ∧ xs.length - at' ≤ c
theorem RX.row {w0 W : World} {rw : Nat} {xs : List Int} {at' e : Nat} (h : RX w0 W rw xs at' e) : ∃ p c, rowOf W rw = some #[.slice p (xs.length - at') c, .int .i64 (e : Int)] := by
  obtain ⟨p, c, h, _⟩ := h
  exact ⟨p, c, by unfold rowOf; rw [h]; rfl⟩
theorem RX.keep {w0 W W' : World} {rw : Nat} {xs : List Int} {at' e : Nat} (h : RX w0 W rw xs at' e) (k : W'.heap[rw]? = W.heap[rw]?) : RX w0 W' rw xs at' e := by
  obtain ⟨p, c, h1, h2⟩ := h
  exact ⟨p, c, k.trans h1, h2⟩
theorem RX.lt {w0 W : World} {rw : Nat} {xs : List Int} {at' e : Nat} (h : RX w0 W rw xs at' e) : rw < W.heap.size := by
  obtain ⟨p, c, h1, h2⟩ := h
  exact (Array.getElem?_eq_some_iff.1 h1).1
theorem cellsAt {W : World} {rw : Nat} {c : Array Value} {t : TypeId} (h : W.heap[rw]? = some (.cells c t (0, 0))) (i : Nat) (u : Value) : (W.setCell ⟨rw, i, none⟩ u).heap[rw]? = some (.cells (c.setIfInBounds i u) t (0, 0)) := by
  unfold World.setCell
  simp only [Array.getElem?_modify, if_true, h]
  rfl
theorem RX.setE {w0 W : World} {rw : Nat} {xs : List Int} {at' e : Nat} (h : RX w0 W rw xs at' e) (k : Nat) : RX w0 (W.setCell ⟨rw, 1, none⟩ (.int .i64 (k : Int))) rw xs at' k := by
  obtain ⟨p, c, h1, h2⟩ := h
  exact ⟨p, c, cellsAt h1 1 _, h2⟩
/-- fail keeps an error, unless there is one -/
def FailR (w0 W : World) (rw : Nat) (xs : List Int) (at' e k : Nat) (e' : Ending) (W' : World) : Prop := e' = .returned (.tuple #[]) ∧ Nb rw W W' ∧ RX w0 W' rw xs at' (if e = 0 then k else e)
theorem Nb.refl2 (rw : Nat) (w : World) : Nb rw w w := ⟨rfl, rfl, rfl, rfl, fun _ _ => rfl⟩
theorem Nb.trans {rw : Nat} {a b c : World} (h : Nb rw a b) (k : Nb rw b c) : Nb rw a c := ⟨k.os.trans h.os, k.tape.trans h.tape, k.output.trans h.output, k.size.trans h.size, fun i hi => (k.block i hi).trans (h.block i hi)⟩
set_option maxHeartbeats 2000000 in
theorem pfail_any {w0 W : World} {rw : Nat} {xs : List Int} {at' e : Nat} (h : RX w0 W rw xs at' e) (k : Nat) :
    Calls Try.prog 45 #[.pointer (some ⟨rw, 0, none⟩), .int .i64 (k : Int)] W (FailR w0 W rw xs at' e k) := by
  obtain ⟨p, c, hr⟩ := h.row
  have c1 : W.cell? ⟨rw, 1, none⟩ = some (.int .i64 (e : Int)) := rowOf_cell hr 1
  have d1 := rowOf_frozen hr 1
  have H := Lib.hid h
  clear hr h
  unfold FailR
  by_cases he : e = 0
  · subst he
    go_enter Try.func45, Try.ntmps45
    go_wp2
    go_returns
    exact ⟨rfl, (Nb.refl2 rw W).set 1 _, H.out.setE k⟩
  · have hb : ((e : Int) == 0) = false := by simp; omega
    rw [if_neg he]
    clear he
    go_enter Try.func45, Try.ntmps45
    go_wp2
    go_returns
    exact ⟨rfl, Nb.refl2 rw W, H.out⟩
/-- what is read of a number, behind an error nothing -/
def uR (xs : List Int) (at' e : Nat) : Nat × Nat × Nat := if e = 0 then readU (xs.drop at') else (0, 0, e)
theorem RX.adv {w0 W : World} {rw : Nat} {xs : List Int} {at' e : Nat} {p : Option Addr} {c : Nat} (h : W.heap[rw]? = some (.cells #[.slice p (xs.length - at') c, .int .i64 (e : Int)] 65 (0, 0))) (hI : RB.Is w0 (.slice p (xs.length - at') c) (xs.drop at')) (hc : xs.length - at' ≤ c) (s k : Nat) (hs : s ≤ xs.length - at') :
    RX w0 ((W.setCell ⟨rw, 0, none⟩ (.slice (if c = s then p else Option.map (fun x => x.add s) p) (xs.length - at' - s) (c - s))).setCell ⟨rw, 1, none⟩ (.int .i64 (k : Int))) rw xs (at' + s) k := by
  have hd := dropIs hI (by exact hc) s hs (fun q => .inr (by omega))
  rw [List.drop_drop] at hd
  refine ⟨if c = s then p else Option.map (fun x => x.add s) p, c - s, (cellsAt (cellsAt h 0 _) 1 _).trans ?_, ?_, ?_⟩
  · rw [← Nat.sub_sub]; rfl
  · rw [← Nat.sub_sub]; exact hd
  · omega
def UnsR (w0 W : World) (rw : Nat) (xs : List Int) (at' e : Nat) (e' : Ending) (W' : World) : Prop := e' = .returned (.int .u64 ((uR xs at' e).1 : Int)) ∧ Nb rw W W' ∧ RX w0 W' rw xs (at' + (uR xs at' e).2.1) (uR xs at' e).2.2
def SigR (w0 W : World) (rw : Nat) (xs : List Int) (at' e : Nat) (e' : Ending) (W' : World) : Prop := e' = .returned (.int .i64 (zag (uR xs at' e).1)) ∧ Nb2 W.heap.size rw W W' ∧ RX w0 W' rw xs (at' + (uR xs at' e).2.1) (uR xs at' e).2.2
theorem readU_size {xs : List Int} (hx : okB xs) : (readU xs).2.1 ≤ xs.length := by
  rcases read_cases hx with ⟨y, s, hr, h1, h2, _⟩ | hr | hr
  · rw [hr]; exact h2
  · rw [hr]; exact Nat.zero_le _
  · rw [hr]; exact Nat.zero_le _
set_option maxRecDepth 100000 in
set_option maxHeartbeats 4000000 in
theorem puns_any {w0 W : World} {rw : Nat} {xs : List Int} {at' e : Nat} (h : RX w0 W rw xs at' e) (hB : Below w0.heap.size w0 W) (hx : okB xs) (hl : xs.length ≤ 9000) :
    Calls Try.prog 56 #[.pointer (some ⟨rw, 0, none⟩)] W (UnsR w0 W rw xs at' e) := by
  have HH := Lib.hid h
  obtain ⟨p, c, hh, hI, hc⟩ := h
  have hr : rowOf W rw = some #[.slice p (xs.length - at') c, .int .i64 (e : Int)] := by unfold rowOf; rw [hh]; rfl
  have c0 : W.cell? ⟨rw, 0, none⟩ = some (.slice p (xs.length - at') c) := rowOf_cell hr 0
  have c1 : W.cell? ⟨rw, 1, none⟩ = some (.int .i64 (e : Int)) := rowOf_cell hr 1
  have d0 := rowOf_frozen hr 0
  have d1 := rowOf_frozen hr 1
  unfold UnsR
  by_cases he : e = 0
  · subst he
    have hs : (readU (xs.drop at')).2.1 ≤ xs.length - at' := by have := readU_size (okB_drop hx at'); rw [List.length_drop] at this; exact this
    have hlt := read_lt (okB_drop hx at')
    have HR := Lib.hid (readU_any (xs.drop at') _ W (by rw [List.length_drop]; omega) (okB_drop hx at') (hI.below hB))
    have HA := Lib.hid (fun s k hs => RX.adv hh hI hc s k hs)
    unfold uR
    rw [if_pos rfl]
    generalize readU (xs.drop at') = rr at *
    obtain ⟨y, s, er⟩ := rr
    have hs : s ≤ xs.length - at' := hs
    have HX := Lib.hid (HA.out s er hs)
    clear HA hI hh hr HH hB hx
    generalize xs.length - at' = n at *
    have hsc : s ≤ c := by omega
    go_enter Try.func56, Try.ntmps56
    go_wp2_with fail
    refine (HR.out).mono ?_
    rintro ee w1 ⟨rfl, rfl⟩
    go_wp2
    all_goals go_returns
    all_goals refine ⟨rfl, ((Nb.refl2 rw w1).set 0 _).set 1 _, ?_⟩
    all_goals have hX := HX.out
    · rw [if_pos (by assumption), show c - s = 0 by omega] at hX; exact hX
    · rw [if_neg (by assumption)] at hX; exact hX
  · have hb : ((e : Int) != 0) = true := by simp; omega
    unfold uR
    rw [if_neg he]
    clear hI hh hr hB hx he
    generalize xs.length - at' = n at *
    go_enter Try.func56, Try.ntmps56
    go_wp2
    go_returns
    exact ⟨rfl, Nb.refl2 rw W, HH.out⟩
set_option maxRecDepth 100000 in
set_option maxHeartbeats 4000000 in
theorem psgn_any {w0 W : World} {rw : Nat} {xs : List Int} {at' e : Nat} (h : RX w0 W rw xs at' e) (hB : Below w0.heap.size w0 W) (hx : okB xs) (hl : xs.length ≤ 9000) :
    Calls Try.prog 48 #[.pointer (some ⟨rw, 0, none⟩)] W (SigR w0 W rw xs at' e) := by
  have HH := Lib.hid h
  obtain ⟨p, c, hh, hI, hc⟩ := h
  have hr : rowOf W rw = some #[.slice p (xs.length - at') c, .int .i64 (e : Int)] := by unfold rowOf; rw [hh]; rfl
  have c0 : W.cell? ⟨rw, 0, none⟩ = some (.slice p (xs.length - at') c) := rowOf_cell hr 0
  have c1 : W.cell? ⟨rw, 1, none⟩ = some (.int .i64 (e : Int)) := rowOf_cell hr 1
  have d0 := rowOf_frozen hr 0
  have d1 := rowOf_frozen hr 1
  unfold SigR
  by_cases he : e = 0
  · subst he
    have hs : (readU (xs.drop at')).2.1 ≤ xs.length - at' := by have := readU_size (okB_drop hx at'); rw [List.length_drop] at this; exact this
    have hlt := read_lt (okB_drop hx at')
    have HR := Lib.hid (readI_any (xs.drop at') _ W (by rw [List.length_drop]; omega) (okB_drop hx at') (hI.below hB))
    have HA := Lib.hid (fun (W' : World) (k9 : W'.heap[rw]? = W.heap[rw]?) s k hs => RX.adv (k9.trans hh) hI hc s k hs)
    have hrl := (Array.getElem?_eq_some_iff.1 hh).1
    unfold uR
    rw [if_pos rfl]
    generalize readU (xs.drop at') = rr at *
    obtain ⟨y, s, er⟩ := rr
    have hs : s ≤ xs.length - at' := hs
    have HX := Lib.hid (fun (W' : World) (k9 : W'.heap[rw]? = W.heap[rw]?) => HA.out W' k9 s er hs)
    have HHr := Lib.hid hr
    clear HA hI hh hr HH hB hx
    generalize xs.length - at' = n at *
    have hsc : s ≤ c := by omega
    go_enter Try.func48, Try.ntmps48
    go_wp2_with fail
    refine (HR.out).mono ?_
    rintro ee w1 ⟨rfl, hb1⟩
    have hr1 := rowOf_below HHr.out hb1 hrl
    replace c0 : w1.cell? ⟨rw, 0, none⟩ = some (.slice p n c) := rowOf_cell hr1 0
    replace c1 : w1.cell? ⟨rw, 1, none⟩ = some (.int .i64 ((0 : Nat) : Int)) := rowOf_cell hr1 1
    replace d0 := rowOf_frozen hr1 0
    replace d1 := rowOf_frozen hr1 1
    have HX := Lib.hid (HX.out w1 (hb1.block rw hrl))
    have HN1 := Lib.hid (Nb2.ofBelow (bw := rw) hb1)
    clear hr1 hb1 HHr
    go_wp2
    all_goals go_returns
    all_goals refine ⟨rfl, HN1.out.trans (((Nb.refl2 rw w1).set 0 _).set 1 _).nb2, ?_⟩
    all_goals have hX := HX.out
    · rw [if_pos (by assumption), show c - s = 0 by omega] at hX; exact hX
    · rw [if_neg (by assumption)] at hX; exact hX
  · have hb : ((e : Int) != 0) = true := by simp; omega
    unfold uR
    rw [if_neg he]
    clear hI hh hr hB hx he
    generalize xs.length - at' = n at *
    go_enter Try.func48, Try.ntmps48
    go_wp2
    go_returns
    exact ⟨rfl, Nb2.refl _ rw W, HH.out⟩
end Go.Proofs.Ytdhmoiiagplbpaa
/- the program's reader: count, small, exchange, signed, as they go on -/
namespace Go.Proofs.Ytdhmoiiagplbpaa
open Go.RowKit
set_option linter.unusedVariables false
set_option linter.unusedSimpArgs false

theorem uR_cases {xs : List Int} {res : Except Nat GV} {at' e least most bad : Nat} {f : Nat → CG} (hx : okB xs) (hb : bad ≠ 0) (he : e ≤ 100) (h : Gd xs res at' e (fun r => andR (numR least most bad r) f)) :
    (∃ y s, uR xs at' e = (y, s, 0) ∧ least ≤ y ∧ y ≤ most ∧ Gd xs res (at' + s) 0 (f y)) ∨
    (∃ y s, uR xs at' e = (y, s, 0) ∧ y < 18446744073709551616 ∧ ¬ (least ≤ y ∧ y ≤ most) ∧ at' + s ≤ xs.length ∧ res = .error bad) ∨
    (∃ e2, uR xs at' e = (0, 0, e2) ∧ e2 ≠ 0 ∧ e2 ≤ 100 ∧ at' ≤ xs.length ∧ res = .error e2) := by
  by_cases h0 : e = 0
  · subst h0
    have hu : uR xs at' 0 = readU (xs.drop at') := if_pos rfl
    have hlt := read_lt (okB_drop hx at')
    have hle := h.1
    have hc := h.num hx hb
    rw [hu]
    rcases read_cases (okB_drop hx at') with ⟨y, s, hr, h1, h2, h3, h4⟩ | hr | hr
    · rw [hr] at hc ⊢
      simp only at hc
      rcases hc with ⟨_, h5, ⟨h6, h7, h8⟩ | ⟨h6, h7⟩⟩ | ⟨h5, _⟩
      · exact .inl ⟨y, s, rfl, h6, h7, h8⟩
      · exact .inr (.inl ⟨y, s, rfl, h4, h6, h5, h7⟩)
      · exact absurd rfl h5
    · rw [hr] at hc ⊢
      rcases hc with ⟨h5, _⟩ | ⟨h5, h6⟩
      · cases h5
      · exact .inr (.inr ⟨3, rfl, by decide, by decide, hle, h6⟩)
    · rw [hr] at hc ⊢
      rcases hc with ⟨h5, _⟩ | ⟨h5, h6⟩
      · cases h5
      · exact .inr (.inr ⟨4, rfl, by decide, by decide, hle, h6⟩)
  · exact .inr (.inr ⟨e, if_neg h0, h0, he, h.1, (h.2.resolve_left (fun q => h0 q.1)).2⟩)
/-- what count and small answer -/
def PNum (w0 W : World) (rw : Nat) (xs : List Int) (res : Except Nat GV) (least most : Nat) (f : Nat → CG) (e' : Ending) (W' : World) : Prop :=
  ∃ n at2 e2 : Nat, e' = .returned (.int .i64 (n : Int)) ∧ n ≤ most ∧ (e2 = 0 → least ≤ n) ∧ e2 ≤ 100 ∧ Nb2 W.heap.size rw W W' ∧ RX w0 W' rw xs at2 e2 ∧ Gd xs res at2 e2 (f n)
def PBit (w0 W : World) (rw : Nat) (xs : List Int) (res : Except Nat GV) (f : Nat → CG) (e' : Ending) (W' : World) : Prop :=
  ∃ n at2 e2 : Nat, e' = .returned (.bool (n == 1)) ∧ n ≤ 1 ∧ e2 ≤ 100 ∧ Nb2 W.heap.size rw W W' ∧ RX w0 W' rw xs at2 e2 ∧ Gd xs res at2 e2 (f n)
def PSgn (w0 W : World) (rw : Nat) (xs : List Int) (res : Except Nat GV) (f : Int → CG) (e' : Ending) (W' : World) : Prop :=
  ∃ (s : Int) (at2 e2 : Nat), e' = .returned (.int .i64 s) ∧ inR s ∧ e2 ≤ 100 ∧ Nb2 W.heap.size rw W W' ∧ RX w0 W' rw xs at2 e2 ∧ Gd xs res at2 e2 (f s)
theorem Gd.err {xs : List Int} {res : Except Nat GV} {at' e : Nat} {c : CG} (h : at' ≤ xs.length) (he : e ≠ 0) (hr : res = .error e) : Gd xs res at' e c := ⟨h, .inr ⟨he, hr⟩⟩
theorem Nb2.ofNb {bw : Nat} {w w' : World} (h : Nb bw w w') : Nb2 w.heap.size bw w w' := h.nb2
set_option maxRecDepth 100000 in
set_option maxHeartbeats 4000000 in
theorem psgn_c {w0 W : World} {rw : Nat} {xs : List Int} {res : Except Nat GV} {at' e : Nat} {f : Int → CG} (h : RX w0 W rw xs at' e) (hB : Below w0.heap.size w0 W) (hx : okB xs) (hl : xs.length ≤ 9000) (he : e ≤ 100) (hG : Gd xs res at' e (fun r => andR (sgnR r) f)) :
    Calls Try.prog 48 #[.pointer (some ⟨rw, 0, none⟩)] W (PSgn w0 W rw xs res f) := by
  refine (psgn_any h hB hx hl).mono ?_
  rintro ee w1 ⟨rfl, hn, hX⟩
  by_cases h0 : e = 0
  · subst h0
    have hu : uR xs at' 0 = readU (xs.drop at') := if_pos rfl
    rw [hu] at hX ⊢
    have hc := hG.sgn hx
    rcases read_cases (okB_drop hx at') with ⟨y, s, hr, h1, h2, h3, h4⟩ | hr | hr
    · rw [hr] at hc hX ⊢
      rcases hc with ⟨_, h5, h6⟩ | ⟨h5, _⟩
      · exact ⟨zag y, at' + s, 0, rfl, zag_in h4, by decide, hn, hX, h6⟩
      · exact absurd rfl h5
    · rw [hr] at hc hX ⊢
      rcases hc with ⟨h5, _⟩ | ⟨h5, h6⟩
      · cases h5
      · exact ⟨zag 0, at', 3, rfl, by decide, by decide, hn, hX, Gd.err hG.1 h5 h6⟩
    · rw [hr] at hc hX ⊢
      rcases hc with ⟨h5, _⟩ | ⟨h5, h6⟩
      · cases h5
      · exact ⟨zag 0, at', 4, rfl, by decide, by decide, hn, hX, Gd.err hG.1 h5 h6⟩
  · have hu : uR xs at' e = (0, 0, e) := if_neg h0
    rw [hu] at hX ⊢
    exact ⟨zag 0, at', e, rfl, by decide, he, hn, hX, hG.bad h0 _⟩
set_option maxRecDepth 100000 in
set_option maxHeartbeats 4000000 in
theorem pcount_any {w0 W : World} {rw : Nat} {xs : List Int} {res : Except Nat GV} {at' e least most : Nat} {f : Nat → CG} (h : RX w0 W rw xs at' e) (hB : Below w0.heap.size w0 W) (hx : okB xs) (hl : xs.length ≤ 9000) (he : e ≤ 100) (hm : most < 9223372036854775808) (hle : least ≤ most) (hG : Gd xs res at' e (fun r => andR (numR least most 11 r) f)) :
    Calls Try.prog 46 #[.pointer (some ⟨rw, 0, none⟩), .int .u64 (least : Int), .int .u64 (most : Int)] W (PNum w0 W rw xs res least most f) := by
  have hu := puns_any h hB hx hl
  have hcase := uR_cases hx (by decide) he hG
  clear hG hx hB
  unfold UnsR at hu
  rcases hcase with ⟨y, s, hr, h1, h2, hg⟩ | ⟨y, s, hr, hlt, hout, hle2, hres⟩ | ⟨e2, hr, hne, he2, hle2, hres⟩
  · rw [hr] at hu
    simp only at hu
    have HU := Lib.hid hu
    have HG := Lib.hid hg
    have h2' : y ≤ most := h2
    have a1 : ¬ (y : Int) < (least : Int) := by omega
    have a2 : ¬ (y : Int) > (most : Int) := by omega
    have a3 : IntKind.i64.wrap (y : Int) = (y : Int) := by rw [IntKind.wrap_i64]; omega
    clear hr hu hg h
    clear h2'
    go_enter Try.func46, Try.ntmps46
    go_wp2_with fail
    refine (HU.out).mono ?_
    rintro ee w1 ⟨rfl, hn1, hX1⟩
    have HN1 := Lib.hid hn1; have HX1 := Lib.hid hX1
    clear hn1 hX1
    go_wp2
    go_returns
    exact ⟨y, at' + s, 0, rfl, (by first | exact h2 | decide | omega), (fun _ => h1), by omega, HN1.out.nb2, HX1.out, HG.out⟩
  · rw [hr] at hu
    simp only at hu
    have HU := Lib.hid hu
    have HG : Hid (Gd xs res (at' + s) 11 (f 0)) := Gd.err hle2 (by decide) hres
    clear hr hu h hres
    by_cases h1 : y < least
    · have a1 : (y : Int) < (least : Int) := by omega
      clear hout
      go_enter Try.func46, Try.ntmps46
      go_wp2_with fail
      refine (HU.out).mono ?_
      rintro ee w1 ⟨rfl, hn1, hX1⟩
      have HF := Lib.hid (pfail_any hX1 11)
      have HN1 := Lib.hid hn1
      clear hn1 hX1
      go_wp2_with fail
      refine (HF.out).mono ?_
      rintro ee w2 ⟨rfl, hn2, hX2⟩
      have HN2 := Lib.hid (HN1.out.trans hn2)
      rw [if_pos rfl] at hX2
      have HX2 := Lib.hid hX2
      clear hn2 hX2
      go_wp2
      go_returns
      exact ⟨0, at' + s, 11, rfl, (by first | exact h2 | decide | omega), (fun q => by cases q), by omega, HN2.out.nb2, HX2.out, HG.out⟩
    · have a1 : ¬ (y : Int) < (least : Int) := by omega
      have a2 : (y : Int) > (most : Int) := by omega
      clear hout h1
      go_enter Try.func46, Try.ntmps46
      go_wp2_with fail
      refine (HU.out).mono ?_
      rintro ee w1 ⟨rfl, hn1, hX1⟩
      have HF := Lib.hid (pfail_any hX1 11)
      have HN1 := Lib.hid hn1
      clear hn1 hX1
      go_wp2_with fail
      refine (HF.out).mono ?_
      rintro ee w2 ⟨rfl, hn2, hX2⟩
      have HN2 := Lib.hid (HN1.out.trans hn2)
      rw [if_pos rfl] at hX2
      have HX2 := Lib.hid hX2
      clear hn2 hX2
      go_wp2
      go_returns
      exact ⟨0, at' + s, 11, rfl, (by first | exact h2 | decide | omega), (fun q => by cases q), by omega, HN2.out.nb2, HX2.out, HG.out⟩
  · rw [hr] at hu
    simp only [Nat.add_zero] at hu
    have HU := Lib.hid hu
    have HG : Hid (Gd xs res at' e2 (f 0)) := Gd.err hle2 hne hres
    clear hr hu h hres
    by_cases h1 : 0 < least
    · have a1 : (0 : Int) < (least : Int) := by omega
      go_enter Try.func46, Try.ntmps46
      go_wp2_with fail
      refine (HU.out).mono ?_
      rintro ee w1 ⟨rfl, hn1, hX1⟩
      have HF := Lib.hid (pfail_any hX1 11)
      have HN1 := Lib.hid hn1
      clear hn1 hX1
      go_wp2_with fail
      refine (HF.out).mono ?_
      rintro ee w2 ⟨rfl, hn2, hX2⟩
      have HN2 := Lib.hid (HN1.out.trans hn2)
      rw [if_neg hne] at hX2
      have HX2 := Lib.hid hX2
      clear hn2 hX2
      go_wp2
      go_returns
      exact ⟨0, at', e2, rfl, (by first | exact h2 | decide | omega), (fun q => absurd q hne), by omega, HN2.out.nb2, HX2.out, HG.out⟩
    · have a1 : ¬ (0 : Int) < (least : Int) := by omega
      have a2 : ¬ (0 : Int) > (most : Int) := by omega
      go_enter Try.func46, Try.ntmps46
      go_wp2_with fail
      refine (HU.out).mono ?_
      rintro ee w1 ⟨rfl, hn1, hX1⟩
      have HN2 := Lib.hid hn1; have HX2 := Lib.hid hX1
      clear hn1 hX1
      go_wp2
      go_returns
      exact ⟨0, at', e2, rfl, (by first | exact h2 | decide | omega), (fun q => absurd q hne), by omega, HN2.out.nb2, HX2.out, HG.out⟩
set_option maxRecDepth 100000 in
set_option maxHeartbeats 4000000 in
theorem psmall_any {w0 W : World} {rw : Nat} {xs : List Int} {res : Except Nat GV} {at' e : Nat} {f : Nat → CG} (h : RX w0 W rw xs at' e) (hB : Below w0.heap.size w0 W) (hx : okB xs) (hl : xs.length ≤ 9000) (he : e ≤ 100) (hG : Gd xs res at' e (fun r => andR (numR 0 topN 2 r) f)) :
    Calls Try.prog 47 #[.pointer (some ⟨rw, 0, none⟩)] W (PNum w0 W rw xs res 0 topN f) := by
  have hu := puns_any h hB hx hl
  have hcase := uR_cases hx (by decide) he hG
  clear hG hx hB
  unfold UnsR at hu
  rcases hcase with ⟨y, s, hr, h1, h2, hg⟩ | ⟨y, s, hr, hlt, hout, hle2, hres⟩ | ⟨e2, hr, hne, he2, hle2, hres⟩
  · rw [hr] at hu
    simp only at hu
    have HU := Lib.hid hu
    have HG := Lib.hid hg
    have h2' : y ≤ 2147483647 := h2
    have a1 : ¬ (y : Int) < 0 := by omega
    have a2 : ¬ (y : Int) > 2147483647 := by omega
    have a3 : IntKind.i64.wrap (y : Int) = (y : Int) := by rw [IntKind.wrap_i64]; omega
    clear hr hu hg h
    clear h2'
    go_enter Try.func47, Try.ntmps47
    go_wp2_with fail
    refine (HU.out).mono ?_
    rintro ee w1 ⟨rfl, hn1, hX1⟩
    have HN1 := Lib.hid hn1; have HX1 := Lib.hid hX1
    clear hn1 hX1
    go_wp2
    go_returns
    exact ⟨y, at' + s, 0, rfl, (by first | exact h2 | decide | omega), (fun _ => h1), by omega, HN1.out.nb2, HX1.out, HG.out⟩
  · rw [hr] at hu
    simp only at hu
    have HU := Lib.hid hu
    have HG : Hid (Gd xs res (at' + s) 2 (f 0)) := Gd.err hle2 (by decide) hres
    clear hr hu h hres
    have hout : ¬ (0 ≤ y ∧ y ≤ 2147483647) := hout
    have a2 : (y : Int) > 2147483647 := by omega
    have a4 : ((y : Int) == 1) = false := by simp; omega
    clear hout
    go_enter Try.func47, Try.ntmps47
    go_wp2_with fail
    refine (HU.out).mono ?_
    rintro ee w1 ⟨rfl, hn1, hX1⟩
    have HF := Lib.hid (pfail_any hX1 2)
    have HN1 := Lib.hid hn1
    clear hn1 hX1
    go_wp2_with fail
    refine (HF.out).mono ?_
    rintro ee w2 ⟨rfl, hn2, hX2⟩
    have HN2 := Lib.hid (HN1.out.trans hn2)
    rw [if_pos rfl] at hX2
    have HX2 := Lib.hid hX2
    clear hn2 hX2
    go_wp2
    go_returns
    exact ⟨0, at' + s, 2, rfl, (by first | exact h2 | decide | omega), (fun q => by cases q), by omega, HN2.out.nb2, HX2.out, HG.out⟩
  · rw [hr] at hu
    simp only [Nat.add_zero] at hu
    have HU := Lib.hid hu
    have HG : Hid (Gd xs res at' e2 (f 0)) := Gd.err hle2 hne hres
    clear hr hu h hres
    go_enter Try.func47, Try.ntmps47
    go_wp2_with fail
    refine (HU.out).mono ?_
    rintro ee w1 ⟨rfl, hn1, hX1⟩
    have HN2 := Lib.hid hn1; have HX2 := Lib.hid hX1
    clear hn1 hX1
    go_wp2
    go_returns
    exact ⟨0, at', e2, rfl, (by first | exact h2 | decide | omega), (fun q => absurd q hne), by omega, HN2.out.nb2, HX2.out, HG.out⟩
set_option maxRecDepth 100000 in
set_option maxHeartbeats 4000000 in
theorem pexch_any {w0 W : World} {rw : Nat} {xs : List Int} {res : Except Nat GV} {at' e : Nat} {f : Nat → CG} (h : RX w0 W rw xs at' e) (hB : Below w0.heap.size w0 W) (hx : okB xs) (hl : xs.length ≤ 9000) (he : e ≤ 100) (hG : Gd xs res at' e (fun r => andR (numR 0 1 4 r) f)) :
    Calls Try.prog 50 #[.pointer (some ⟨rw, 0, none⟩)] W (PBit w0 W rw xs res f) := by
  have hu := puns_any h hB hx hl
  have hcase := uR_cases hx (by decide) he hG
  clear hG hx hB
  unfold UnsR at hu
  rcases hcase with ⟨y, s, hr, h1, h2, hg⟩ | ⟨y, s, hr, hlt, hout, hle2, hres⟩ | ⟨e2, hr, hne, he2, hle2, hres⟩
  · rw [hr] at hu
    simp only at hu
    have HU := Lib.hid hu
    have HG := Lib.hid hg
    have h2' : y ≤ 1 := h2
    have a1 : ¬ (y : Int) < 0 := by omega
    have a2 : ¬ (y : Int) > 1 := by omega
    have a3 : IntKind.i64.wrap (y : Int) = (y : Int) := by rw [IntKind.wrap_i64]; omega
    clear hr hu hg h
    clear h2'
    go_enter Try.func50, Try.ntmps50
    go_wp2_with fail
    refine (HU.out).mono ?_
    rintro ee w1 ⟨rfl, hn1, hX1⟩
    have HN1 := Lib.hid hn1; have HX1 := Lib.hid hX1
    clear hn1 hX1
    go_wp2
    go_returns
    refine ⟨y, at' + s, 0, ?_, by omega, by omega, HN1.out.nb2, HX1.out, HG.out⟩; rcases (by omega : y = 0 ∨ y = 1) with rfl | rfl <;> rfl
  · rw [hr] at hu
    simp only at hu
    have HU := Lib.hid hu
    have HG : Hid (Gd xs res (at' + s) 4 (f 0)) := Gd.err hle2 (by decide) hres
    clear hr hu h hres
    have hout : ¬ (0 ≤ y ∧ y ≤ 1) := hout
    have a2 : (y : Int) > 1 := by omega
    have a4 : ((y : Int) == 1) = false := by simp; omega
    clear hout
    go_enter Try.func50, Try.ntmps50
    go_wp2_with fail
    refine (HU.out).mono ?_
    rintro ee w1 ⟨rfl, hn1, hX1⟩
    have HF := Lib.hid (pfail_any hX1 4)
    have HN1 := Lib.hid hn1
    clear hn1 hX1
    go_wp2_with fail
    refine (HF.out).mono ?_
    rintro ee w2 ⟨rfl, hn2, hX2⟩
    have HN2 := Lib.hid (HN1.out.trans hn2)
    rw [if_pos rfl] at hX2
    have HX2 := Lib.hid hX2
    clear hn2 hX2
    go_wp2
    go_returns
    exact ⟨0, at' + s, 4, rfl, by omega, by omega, HN2.out.nb2, HX2.out, HG.out⟩
  · rw [hr] at hu
    simp only [Nat.add_zero] at hu
    have HU := Lib.hid hu
    have HG : Hid (Gd xs res at' e2 (f 0)) := Gd.err hle2 hne hres
    clear hr hu h hres
    go_enter Try.func50, Try.ntmps50
    go_wp2_with fail
    refine (HU.out).mono ?_
    rintro ee w1 ⟨rfl, hn1, hX1⟩
    have HN2 := Lib.hid hn1; have HX2 := Lib.hid hX1
    clear hn1 hX1
    go_wp2
    go_returns
    exact ⟨0, at', e2, rfl, by omega, by omega, HN2.out.nb2, HX2.out, HG.out⟩
end Go.Proofs.Ytdhmoiiagplbpaa
/- the program's reader: begin, end -/
namespace Go.Proofs.Ytdhmoiiagplbpaa
open Go.RowKit
set_option linter.unusedVariables false
set_option linter.unusedSimpArgs false

abbrev markL : List Int := [66, 87, 49]
theorem head_cases : ∀ (xs : List Int), (3 ≤ xs.length ∧ xs.take 3 = markL ∧ headR xs = .ok ((), xs.drop 3)) ∨ (¬ (3 ≤ xs.length ∧ xs.take 3 = markL) ∧ ((xs.length ≤ 3 ∧ markL.take xs.length = xs ∧ headR xs = .error 3) ∨ (¬ (xs.length ≤ 3 ∧ markL.take xs.length = xs) ∧ headR xs = .error 4)))
  | [] => .inr ⟨by simp, .inl ⟨by simp, rfl, rfl⟩⟩
  | [a] => by
    by_cases h : a = 66
    · subst h; exact .inr ⟨by simp, .inl ⟨by simp, rfl, rfl⟩⟩
    · exact .inr ⟨by simp, .inr ⟨fun q => h (by have := q.2; simp [markL] at this; omega), by simp [headR, h]⟩⟩
  | [a, b] => by
    by_cases h : a = 66
    · subst h
      by_cases h2 : b = 87
      · subst h2; exact .inr ⟨by simp, .inl ⟨by simp, rfl, rfl⟩⟩
      · exact .inr ⟨by simp, .inr ⟨fun q => h2 (by have := q.2; simp [markL] at this; omega), by simp [headR, h2]⟩⟩
    · exact .inr ⟨by simp, .inr ⟨fun q => h (by have := q.2; simp [markL] at this; omega), by simp [headR, h]⟩⟩
  | a :: b :: c :: t => by
    by_cases h : a = 66 ∧ b = 87 ∧ c = 49
    · obtain ⟨rfl, rfl, rfl⟩ := h
      exact .inl ⟨by simp, rfl, rfl⟩
    · refine .inr ⟨fun q => h (by have := q.2; simp [markL] at this; exact this), .inr ⟨fun q => h ?_, ?_⟩⟩
      · obtain ⟨q1, q2⟩ := q
        have ht : t = [] := by cases t with | nil => rfl | cons d t => simp at q1
        subst ht
        simp [markL] at q2
        exact ⟨q2.1.symm, q2.2.1.symm, q2.2.2.symm⟩
      · unfold headR
        simp only
        by_cases h1 : a = 66
        · by_cases h2 : b = 87
          · have h3 : c ≠ 49 := fun e => h ⟨h1, h2, e⟩
            simp [h1, h2, h3]
          · simp [h1, h2]
        · simp [h1]
def PBeg (w0 W : World) (rw : Nat) (xs : List Int) (res : Except Nat GV) (k : CG) (e' : Ending) (W' : World) : Prop :=
  ∃ at2 e2 : Nat, e' = .returned (.tuple #[]) ∧ e2 ≤ 100 ∧ Nb2 W.heap.size rw W W' ∧ RX w0 W' rw xs at2 e2 ∧ Gd xs res at2 e2 k
theorem mark_ok : okB markL := by intro x hx; simp [markL] at hx; rcases hx with rfl | rfl | rfl <;> decide
theorem markIs (W : World) : RB.Is (W.alloc (.cells #[.int .u8 66, .int .u8 87, .int .u8 49] 5 (3, 4))) (.slice (some ⟨W.heap.size, 0, none⟩) 3 3) markL := .inr ⟨by simp [markL], W.heap.size, 0, 3, rfl, by simp, litB W⟩
theorem kcM (W : World) : (convert 29 29 (.slice (some ⟨W.heap.size, 0, none⟩) 3 3)).run Try.prog (W.alloc (.cells #[.int .u8 66, .int .u8 87, .int .u8 49] 5)) = .ok (.slice (some ⟨W.heap.size, 0, none⟩) 3 3) (W.alloc (.cells #[.int .u8 66, .int .u8 87, .int .u8 49] 5 (3, 4))) :=
  Lib.run_convert_bytes_const (P := Try.prog) W 29 5 #[.int .u8 66, .int .u8 87, .int .u8 49] 3 3 Try.underlying29 Try.underlying5
set_option maxRecDepth 100000 in
set_option maxHeartbeats 4000000 in
theorem pbegin_any {w0 W : World} {rw : Nat} {xs : List Int} {res : Except Nat GV} {k : CG} (h : RX w0 W rw xs 0 0) (hB : Below w0.heap.size w0 W) (hx : okB xs) (hl : xs.length ≤ 9000) (hG : andR (headR xs) (fun _ r => k r) = res) :
    Calls Try.prog 31 #[.pointer (some ⟨rw, 0, none⟩)] W (PBeg w0 W rw xs res k) := by
  have HH := Lib.hid h
  obtain ⟨p, c, hh, hI, hc⟩ := h
  rw [List.drop_zero] at hI
  rw [Nat.sub_zero] at hh hI hc
  have hrl := (Array.getElem?_eq_some_iff.1 hh).1
  have hh2 := (Below.heap_alloc W (.cells #[.int .u8 66, .int .u8 87, .int .u8 49] 5 (3, 4)) rw hrl).trans hh
  have hrl2 := (Array.getElem?_eq_some_iff.1 hh2).1
  have hh3 := (Below.heap_alloc (W.alloc (.cells #[.int .u8 66, .int .u8 87, .int .u8 49] 5 (3, 4))) (.cells #[.int .u8 66, .int .u8 87, .int .u8 49] 5 (3, 4)) rw hrl2).trans hh2
  have hb1 : Below W.heap.size W (W.alloc (.cells #[.int .u8 66, .int .u8 87, .int .u8 49] 5 (3, 4))) := (Below.refl _ _).alloc (Nat.le_refl _) _
  have hb2 : Below W.heap.size W ((W.alloc (.cells #[.int .u8 66, .int .u8 87, .int .u8 49] 5 (3, 4))).alloc (.cells #[.int .u8 66, .int .u8 87, .int .u8 49] 5 (3, 4))) := hb1.alloc hb1.size _
  have hI1 := (hI.below hB).below hb1
  have hI2 := (hI.below hB).below hb2
  have c0 : W.cell? ⟨rw, 0, none⟩ = some (.slice p xs.length c) := rowOf_cell (show rowOf W rw = some #[.slice p xs.length c, .int .i64 ((0 : Nat) : Int)] by unfold rowOf; rw [hh]; rfl) 0
  have r2 : rowOf (W.alloc (.cells #[.int .u8 66, .int .u8 87, .int .u8 49] 5 (3, 4))) rw = some #[.slice p xs.length c, .int .i64 ((0 : Nat) : Int)] := by unfold rowOf; rw [hh2]; rfl
  have c2 : (W.alloc (.cells #[.int .u8 66, .int .u8 87, .int .u8 49] 5 (3, 4))).cell? ⟨rw, 0, none⟩ = some (.slice p xs.length c) := rowOf_cell r2 0
  have d2 := rowOf_frozen r2 0
  have c3 : ((W.alloc (.cells #[.int .u8 66, .int .u8 87, .int .u8 49] 5 (3, 4))).alloc (.cells #[.int .u8 66, .int .u8 87, .int .u8 49] 5 (3, 4))).cell? ⟨rw, 0, none⟩ = some (.slice p xs.length c) := rowOf_cell (show rowOf ((W.alloc (.cells #[.int .u8 66, .int .u8 87, .int .u8 49] 5 (3, 4))).alloc (.cells #[.int .u8 66, .int .u8 87, .int .u8 49] 5 (3, 4))) rw = some #[.slice p xs.length c, .int .i64 ((0 : Nat) : Int)] by unfold rowOf; rw [hh3]; rfl) 0
  have kc := kcM W
  have kc2 := kcM (W.alloc (.cells #[.int .u8 66, .int .u8 87, .int .u8 49] 5 (3, 4)))
  rw [World.size_alloc] at kc2
  have H1 := Lib.hid (bprefix_any xs markL p (some ⟨W.heap.size, 0, none⟩) c 3 (W.alloc (.cells #[.int .u8 66, .int .u8 87, .int .u8 49] 5 (3, 4))) hx mark_ok hc hI1 (markIs W))
  have H2 := Lib.hid (bprefix_any markL xs (some ⟨W.heap.size + 1, 0, none⟩) p 3 c ((W.alloc (.cells #[.int .u8 66, .int .u8 87, .int .u8 49] 5 (3, 4))).alloc (.cells #[.int .u8 66, .int .u8 87, .int .u8 49] 5 (3, 4))) mark_ok hx (Nat.le_refl _) (by have := markIs (W.alloc (.cells #[.int .u8 66, .int .u8 87, .int .u8 49] 5 (3, 4))); rw [World.size_alloc] at this; exact this) hI2)
  have HN1 := Lib.hid (Nb2.ofBelow (bw := rw) hb1)
  have HN2 := Lib.hid (Nb2.ofBelow (bw := rw) hb2)
  have HX2 : Hid (RX w0 ((W.alloc (.cells #[.int .u8 66, .int .u8 87, .int .u8 49] 5 (3, 4))).alloc (.cells #[.int .u8 66, .int .u8 87, .int .u8 49] 5 (3, 4))) rw xs 0 0) := HH.out.keep (hh3.trans hh.symm)
  have HA : Hid (∀ (hs : 3 ≤ xs.length), ∃ b off, p = some ⟨b, off, none⟩ ∧ RX w0 ((W.setCell ⟨rw, 0, none⟩ (.slice (if c = 3 then some ⟨b, off, none⟩ else some ⟨b, off + 3, none⟩) (xs.length - 3) (c - 3))).alloc (.cells #[.int .u8 66, .int .u8 87, .int .u8 49] 5 (3, 4))) rw xs 3 0) := fun hs => by
    have hd := dropIs hI hc 3 hs (fun q => .inr (by omega))
    rcases hI with ⟨e, _⟩ | ⟨_, b, off, c', e, _⟩
    · rw [e] at hs; simp at hs
    · simp only [Value.slice.injEq] at e
      obtain ⟨rfl, _, _⟩ := e
      have e3 : (if c = 3 then some (⟨b, off, none⟩ : Addr) else Option.map (fun (x : Addr) => x.add 3) (some (⟨b, off, none⟩ : Addr))) = (if c = 3 then some ⟨b, off, none⟩ else some ⟨b, off + 3, none⟩) := by
        split
        · rfl
        · simp [Addr.add_lit]
      rw [e3] at hd
      exact ⟨b, off, rfl, _, _, (Below.heap_alloc (W.setCell ⟨rw, 0, none⟩ _) _ rw (by simp [World.setCell]; exact hrl)).trans (cellsAt hh 0 _), hd, by omega⟩
  have hml : markL.length = 3 := rfl
  rw [hml] at H1 H2
  rcases head_cases xs with ⟨g1, g2, g3⟩ | ⟨g1, ⟨g2, g3, g4⟩ | ⟨g2, g3⟩⟩
  · rw [decide_eq_true ⟨g1, g2⟩] at H1
    obtain ⟨b, off, rfl, hXX⟩ := HA.out g1
    have HX := Lib.hid hXX
    have HG : Hid (Gd xs res 3 0 k) := ⟨g1, .inl ⟨rfl, by rw [g3] at hG; exact hG⟩⟩
    clear hXX hG g2 g3 H2 HA HX2 hI1 hI2 hI hh hh2 hh3 hb1 hb2 hB hx HH kc2 c3 HN2 r2 HN1
    generalize xs.length = n at *
    have g1i : (3 : Int) ≤ (n : Int) := by omega
    have hc3 : 3 ≤ c := by omega
    go_enter Try.func31, Try.ntmps31
    go_wp2_with fail
    refine (H1.out).mono ?_
    rintro ee w1 ⟨rfl, rfl⟩
    go_wp2
    all_goals go_returns
    all_goals refine ⟨3, 0, rfl, by decide, ⟨rfl, rfl, rfl, by simp [World.setCell], fun i hi hn => (Below.heap_alloc (W.setCell ⟨rw, 0, none⟩ _) _ i (by simp [World.setCell]; exact hi)).trans (Below.heap_setCell W ⟨rw, 0, none⟩ _ i hn)⟩, ?_, HG.out⟩
    all_goals have hX := HX.out
    · rw [if_pos (by assumption), show c - 3 = 0 by omega] at hX; exact hX
    · rw [if_neg (by assumption)] at hX; exact hX
  · rw [decide_eq_false g1] at H1
    rw [decide_eq_true ⟨g2, g3⟩] at H2
    have HG : Hid (Gd xs res 0 3 k) := Gd.err (Nat.zero_le _) (by decide) (by rw [g4] at hG; exact hG.symm)
    have HF := Lib.hid (pfail_any HX2.out 3)
    clear hG g1 g2 g3 g4 HA hI1 hI2 hI hh hh2 hh3 hb1 hb2 hB hx HH HN1 r2 d2
    go_enter Try.func31, Try.ntmps31
    go_wp2_with fail
    refine (H1.out).mono ?_
    rintro ee w1 ⟨rfl, rfl⟩
    go_wp2_with fail
    refine (H2.out).mono ?_
    rintro ee w1 ⟨rfl, rfl⟩
    go_wp2_with fail
    refine (HF.out).mono ?_
    rintro ee w1 ⟨rfl, hn, hX⟩
    rw [if_pos rfl] at hX
    have HX := Lib.hid hX
    have HN := Lib.hid (HN2.out.trans (⟨hn.os, hn.tape, hn.output, by rw [hn.size]; exact Nat.le_refl _, fun i _ hne => hn.block i hne⟩ : Nb2 W.heap.size rw _ _))
    clear hn hX
    go_wp2
    go_returns
    exact ⟨0, 3, rfl, by decide, HN.out, HX.out, HG.out⟩
  · rw [decide_eq_false g1] at H1
    rw [decide_eq_false g2] at H2
    have HG : Hid (Gd xs res 0 4 k) := Gd.err (Nat.zero_le _) (by decide) (by rw [g3] at hG; exact hG.symm)
    have HF := Lib.hid (pfail_any HX2.out 4)
    clear hG g1 g2 g3 HA hI1 hI2 hI hh hh2 hh3 hb1 hb2 hB hx HH HN1 r2 d2
    go_enter Try.func31, Try.ntmps31
    go_wp2_with fail
    refine (H1.out).mono ?_
    rintro ee w1 ⟨rfl, rfl⟩
    go_wp2_with fail
    refine (H2.out).mono ?_
    rintro ee w1 ⟨rfl, rfl⟩
    go_wp2_with fail
    refine (HF.out).mono ?_
    rintro ee w1 ⟨rfl, hn, hX⟩
    rw [if_pos rfl] at hX
    have HX := Lib.hid hX
    have HN := Lib.hid (HN2.out.trans (⟨hn.os, hn.tape, hn.output, by rw [hn.size]; exact Nat.le_refl _, fun i _ hne => hn.block i hne⟩ : Nb2 W.heap.size rw _ _))
    clear hn hX
    go_wp2
    go_returns
    exact ⟨0, 4, rfl, by decide, HN.out, HX.out, HG.out⟩
/-- what end leaves -/
def PEnd (w0 W : World) (rw : Nat) (xs : List Int) (res : Except Nat GV) (g : GV) (e' : Ending) (W' : World) : Prop :=
  ∃ at2 e2 : Nat, e' = .returned (.tuple #[]) ∧ e2 ≤ 100 ∧ Nb2 W.heap.size rw W W' ∧ RX w0 W' rw xs at2 e2 ∧ ((e2 = 0 ∧ res = .ok g) ∨ (e2 ≠ 0 ∧ res = .error e2))
set_option maxRecDepth 100000 in
set_option maxHeartbeats 4000000 in
theorem pend_any {w0 W : World} {rw : Nat} {xs : List Int} {res : Except Nat GV} {at' e : Nat} {g : GV} (h : RX w0 W rw xs at' e) (he : e ≤ 100) (hG : Gd xs res at' e (contF g)) :
    Calls Try.prog 35 #[.pointer (some ⟨rw, 0, none⟩)] W (PEnd w0 W rw xs res g) := by
  have HH := Lib.hid h
  obtain ⟨p, c, hr⟩ := h.row
  have c0 : W.cell? ⟨rw, 0, none⟩ = some (.slice p (xs.length - at') c) := rowOf_cell hr 0
  have HF := Lib.hid (pfail_any h 4)
  clear hr h
  have hle := hG.1
  by_cases hn : xs.length - at' = 0
  · have HR : Hid ((e = 0 ∧ res = .ok g) ∨ (e ≠ 0 ∧ res = .error e)) := by
      rcases hG.2 with ⟨h0, h1⟩ | h1
      · refine .inl ⟨h0, ?_⟩
        rw [← h1]
        unfold contF
        rw [if_pos (List.drop_of_length_le (by omega))]
      · exact .inr h1
    rw [hn] at c0
    clear hG HF hn
    go_enter Try.func35, Try.ntmps35
    go_wp2
    go_returns
    exact ⟨at', e, rfl, he, Nb2.refl _ _ _, HH.out, HR.out⟩
  · have HR : Hid ((if e = 0 then 4 else e) ≠ 0 ∧ res = .error (if e = 0 then 4 else e)) := by
      rcases hG.2 with ⟨h0, h1⟩ | ⟨h0, h1⟩
      · refine ⟨by rw [if_pos h0]; decide, ?_⟩
        rw [if_pos h0, ← h1]
        unfold contF
        rw [if_neg (fun q => hn (by have := congrArg List.length q; rw [List.length_drop] at this; exact this))]
      · rw [if_neg h0]; exact ⟨h0, h1⟩
    have hle2 : (if e = 0 then 4 else e) ≤ 100 := by split <;> omega
    unfold FailR at HF
    generalize (if e = 0 then 4 else e) = e2 at *
    generalize xs.length - at' = n at *
    have hz : (n : Int) > 0 := by omega
    clear hG hn
    go_enter Try.func35, Try.ntmps35
    go_wp2_with fail
    refine (HF.out).mono ?_
    rintro ee w1 ⟨rfl, hn, hX⟩
    have HN : Hid (Nb2 W.heap.size rw W w1) := hn.nb2
    have HX := Lib.hid hX
    clear hn hX
    go_wp2
    go_returns
    exact ⟨at', e2, rfl, hle2, HN.out, HX.out, .inr HR.out⟩
end Go.Proofs.Ytdhmoiiagplbpaa
/- rows beside the program's reader; scopes -/
namespace Go.Proofs.Ytdhmoiiagplbpaa
open Go.RowKit
set_option linter.unusedVariables false
set_option linter.unusedSimpArgs false

theorem RowKind.Own.nb {α : Type} {R : RowKind α} {B rw : Nat} {W W' : World} {v : Value} {xs : List α} (h : R.Own B W v xs) (hn : Nb2 W.heap.size rw W W') (hr : rw < B) : R.Own B W' v xs :=
  h.keepW fun l hl => hn.block l (h.lt l hl).2 (by have := (h.lt l hl).1; omega)
theorem RX.nbr {w0 W W' : World} {rw : Nat} {xs : List Int} {at' e : Nat} {v v' : Value} (h : RX w0 W rw xs at' e) (ha : Appd W W' v v') (hn : v.ownBlock ≠ some rw) : RX w0 W' rw xs at' e :=
  h.keep (ha.grown.block rw h.lt (fun e => hn e.symm))
theorem RX.alloc {w0 W : World} {rw : Nat} {xs : List Int} {at' e : Nat} (h : RX w0 W rw xs at' e) (o : Obj) : RX w0 (W.alloc o) rw xs at' e := h.keep (Below.heap_alloc W o rw h.lt)
theorem Nb2.appd {N rw : Nat} {a W W' : World} {v v' : Value} (h : Nb2 N rw a W) (ha : Appd W W' v v') (hN : N ≤ W.heap.size) (hv : ∀ k, v.ownBlock = some k → N ≤ k) : Nb2 N rw a W' := h.grown hN ha.grown hv
theorem Nb2.nb2m {N rw : Nat} {a W W' : World} (h : Nb2 N rw a W) (k : Nb2 W.heap.size rw W W') (hN : N ≤ W.heap.size) : Nb2 N rw a W' :=
  h.trans ⟨k.os, k.tape, k.output, k.size, fun i hi hn => k.block i (by omega) hn⟩
/-- two rows of ints of the call's own, apart -/
structure PQ (B : Nat) (W : World) (pv bv : Value) (P Q : List Int) : Prop where
  p : RN.Own B W pv P
  q : RN.Own B W bv Q
  sep : ∀ k, pv.ownBlock = some k → bv.ownBlock ≠ some k
namespace PQ
variable {B : Nat} {W W' : World} {pv bv : Value} {P Q : List Int}
theorem nb {rw : Nat} (h : PQ B W pv bv P Q) (hn : Nb2 W.heap.size rw W W') (hr : rw < B) : PQ B W' pv bv P Q := ⟨h.p.nb hn hr, h.q.nb hn hr, h.sep⟩
theorem alloc (h : PQ B W pv bv P Q) (o : Obj) : PQ B (W.alloc o) pv bv P Q := ⟨h.p.alloc o, h.q.alloc o, h.sep⟩
theorem setP {pv' : Value} {P' : List Int} (h : PQ B W pv bv P Q) (ha : Appd W W' pv pv') (ho : RN.Own B W' pv' P') : PQ B W' pv' bv P' Q :=
  ⟨ho, h.q.keepW fun l hl => ha.grown.block l (h.q.lt l hl).2 (fun e => h.sep l e.symm hl), fun k hk hk2 => ha.apart (h.q.lt k hk2).2 (fun e => h.sep k e hk2) hk⟩
theorem setQ {bv' : Value} {Q' : List Int} (h : PQ B W pv bv P Q) (ha : Appd W W' bv bv') (ho : RN.Own B W' bv' Q') : PQ B W' pv bv' P Q' :=
  ⟨h.p.keepW fun l hl => ha.grown.block l (h.p.lt l hl).2 (fun e => h.sep l hl e.symm), ho, fun k hk hk2 => ha.apart (h.p.lt k hk).2 (fun e => h.sep k hk e) hk2⟩
theorem apP {rw : Nat} (h : PQ B W pv bv P Q) (hr : rw < B) : pv.ownBlock ≠ some rw := fun e => by have := (h.p.lt rw e).1; omega
theorem apQ {rw : Nat} (h : PQ B W pv bv P Q) (hr : rw < B) : bv.ownBlock ≠ some rw := fun e => by have := (h.q.lt rw e).1; omega
end PQ
theorem pq_init (W : World) : PQ W.heap.size ((W.alloc (.cells #[.int .i64 (-1)] 3)).alloc (.cells #[.int .i64 0] 3)) (.slice (some ⟨W.heap.size, 0, none⟩) 1 1) (.slice (some ⟨W.heap.size + 1, 0, none⟩) 1 1) [-1] [0] := by
  refine ⟨⟨rfl, .inr ⟨W.heap.size, 1, #[.int .i64 (-1)], rfl, Nat.le_refl _, (Below.heap_alloc _ _ _ (by simp)).trans (heap_alloc_new W _), by decide, by decide, rfl, rfl⟩⟩, ⟨rfl, .inr ⟨W.heap.size + 1, 1, #[.int .i64 0], rfl, by omega, ?_, by decide, by decide, rfl, rfl⟩⟩, fun k h1 h2 => ?_⟩
  · have := heap_alloc_new (W.alloc (.cells #[.int .i64 (-1)] 3)) (.cells #[.int .i64 0] 3)
    rw [World.size_alloc] at this
    exact this
  · have e1 := Option.some.inj h1
    have e2 := Option.some.inj h2
    simp only at e1 e2
    omega
/-- what scopes answers -/
def PSc (w0 W : World) (rw : Nat) (xs : List Int) (res : Except Nat GV) (e' : Ending) (W' : World) : Prop :=
  ∃ pv bv P Q, ∃ at2 e2 : Nat, e' = .returned (.tuple #[pv, bv]) ∧ PQ W.heap.size W' pv bv P Q ∧ e2 ≤ 100 ∧ Nb2 W.heap.size rw W W' ∧ RX w0 W' rw xs at2 e2 ∧ Gd xs res at2 e2 (contNc P Q)
set_option maxRecDepth 100000 in
set_option maxHeartbeats 8000000 in
theorem pscop_any {w0 W : World} {rw : Nat} {xs : List Int} {res : Except Nat GV} {at' e : Nat} (h : RX w0 W rw xs at' e) (hB : Below w0.heap.size w0 W) (hrw : w0.heap.size ≤ rw) (hx : okB xs) (hl : xs.length ≤ 9000) (he : e ≤ 100) (hG : Gd xs res at' e contSc) :
    Calls Try.prog 32 #[.pointer (some ⟨rw, 0, none⟩)] W (PSc w0 W rw xs res) := by
  have hrl := h.lt
  have hb2 : Below W.heap.size W ((W.alloc (.cells #[.int .i64 (-1)] 3)).alloc (.cells #[.int .i64 0] 3)) := ((Below.refl _ _).alloc (Nat.le_refl _) _).alloc (by simp) _
  have hBL : Below w0.heap.size w0 ((W.alloc (.cells #[.int .i64 (-1)] 3)).alloc (.cells #[.int .i64 0] 3)) := (hB.alloc hB.size _).alloc (by simp; have := hB.size; omega) _
  have HC := Lib.hid (pcount_any (least := 1) (most := 8) ((h.alloc (.cells #[.int .i64 (-1)] 3)).alloc (.cells #[.int .i64 0] 3)) hBL hx hl he (by decide) (by decide) hG)
  have HPQ := Lib.hid (pq_init W)
  have HN0 := Lib.hid (Nb2.ofBelow (bw := rw) hb2)
  have HBz := Lib.hid hB; have HXo := Lib.hid hx; have HRW := Lib.hid hrw; have HRL := Lib.hid hrl
  have HSm := Lib.hid (fun (W' : World) (at' e : Nat) (f : Nat → CG) (h : RX w0 W' rw xs at' e) (hB : Below w0.heap.size w0 W') (he : e ≤ 100) (hG : Gd xs res at' e (fun r => andR (numR 0 topN 2 r) f)) => psmall_any h hB hx hl he hG)
  clear h hB hx hG hb2 hBL hrw hrl
  go_enter Try.func32, Try.ntmps32
  go_wp2_with fail
  refine (HC.out).mono ?_
  rintro ee w1 ⟨n, at1, e1, rfl, hn8, hn1, he1, hnb, hX, hG⟩
  have HPQ1 := Lib.hid (HPQ.out.nb hnb HRL.out)
  have HN1 := Lib.hid (HN0.out.nb2m hnb HN0.out.size)
  have HX1 := Lib.hid hX; have HG1 := Lib.hid hG; have HE1 := Lib.hid he1
  clear hnb hX hG he1 hn1 HC HPQ HN0 he
  have hsub : IntKind.i64.wrap ((n : Int) - 1) = (n : Int) - 1 := by rw [IntKind.wrap_i64]; omega
  go_wp2_with fail
  go_loopg [4, 5, 11] 9 (fun gg p9 b9 i wr => ∃ (k : Nat) (pv bv : Value) (P Q : List Int) (at0 e0 : Nat), pv = p9 ∧ bv = b9 ∧ i = .int .i64 (k : Int) ∧ 8 - k ≤ gg ∧ k ≤ 8 ∧ k ≤ n - 1 ∧ P.length = k + 1 ∧ Q.length = k + 1 ∧ Hid (PQ W.heap.size wr pv bv P Q) ∧ Hid (Nb2 W.heap.size rw W wr) ∧ Hid (RX w0 wr rw xs at0 e0) ∧ Hid (e0 ≤ 100) ∧ Hid (Gd xs res at0 e0 (contS P Q (n - 1 - k))))
  case atStart => exact ⟨0, _, _, [-1], [0], at1, e1, rfl, rfl, rfl, by omega, by omega, by omega, rfl, rfl, HPQ1.out, HN1.out, HX1.out, HE1.out, HG1.out⟩
  case round =>
    clear HPQ1 HN1 HX1 HE1 HG1
    obtain ⟨k, pv, bv, P, Q, at0, e0, rfl, rfl, rfl, hg, hk8, hkn, hPl, hQl, HPQ, HN, HX, HE, HG⟩ := hrel
    by_cases hlt : k < n - 1
    · have hlz : (k : Int) < (n : Int) - 1 := by omega
      have hgq := HG.out
      rw [show n - 1 - k = (n - 1 - (k + 1)) + 1 by omega, contS_step] at hgq
      have HC := Lib.hid (HSm.out wr at0 e0 (fun a => fun r => andR (numR 0 topN 2 r) fun d r => contS (P ++ [(a : Int)]) (Q ++ [(d : Int)]) (n - 1 - (k + 1)) r) HX.out (HN.out.below HBz.out HRW.out HBz.out.size) HE.out hgq)
      clear hgq HG HX HE
      go_wp2_with fail
      refine (HC.out).mono ?_
      rintro ee w2 ⟨a1, at1, e1, rfl, ha1, _, he1, hnb, hX, hG⟩
      have HPQ2 := Lib.hid (HPQ.out.nb hnb HRL.out)
      have HN2 := Lib.hid (HN.out.nb2m hnb HN.out.size)
      have HX2 := Lib.hid hX; have HG2 := Lib.hid hG; have HE2 := Lib.hid he1
      clear hnb hX hG he1 HC HPQ HN
      have HWs : Hid (W.heap.size ≤ w2.heap.size) := HN2.out.size
      go_wp2_with (at_builtin; refine RowKind.Own.appendB (R := RN) (w := w2.alloc (.cells #[.int .i64 (a1 : Int)] 3)) rfl _ _ rfl (HPQ2.out.alloc _).p rfl [(a1 : Int)] rfl (RowKind.Row.app (ys := [(a1 : Int)]) (RowKind.Row.new (R := RN) w2 (a1 : Int) 3)) (by rw [List.length_singleton]; omega) (Nat.le_trans HWs.out (by simp)) ?_; intro v3 w3 hO3 hg3 hs3; have HA3 := Lib.hid (Appd.mk hg3 hs3); have HPQ3 := Lib.hid ((HPQ2.out.alloc (.cells #[.int .i64 (a1 : Int)] 3)).setP HA3.out hO3); have HN3 := Lib.hid ((HN2.out.alloc HWs.out (.cells #[.int .i64 (a1 : Int)] 3)).appd HA3.out (Nat.le_trans HWs.out (by simp)) (fun k hk => ((HPQ2.out.alloc (.cells #[.int .i64 (a1 : Int)] 3)).p.lt k hk).1)); have HX3 := Lib.hid ((HX2.out.alloc (.cells #[.int .i64 (a1 : Int)] 3)).nbr HA3.out (HPQ2.out.apP HRL.out)); clear hO3 hg3 hs3)
      clear HA3 HPQ2 HN2 HX2 HWs
      have hPn : (P ++ [(a1 : Int)]).length = k + 1 + 1 := by rw [List.length_append, hPl]; rfl
      generalize P ++ [(a1 : Int)] = P2 at *
      have HC := Lib.hid (HSm.out w3 at1 e1 (fun d => fun r => contS P2 (Q ++ [(d : Int)]) (n - 1 - (k + 1)) r) HX3.out (HN3.out.below HBz.out HRW.out HBz.out.size) HE2.out HG2.out)
      clear HX3 HE2 HG2
      go_wp2_with fail
      refine (HC.out).mono ?_
      rintro ee w4 ⟨a2, at2, e2, rfl, ha2, _, he2, hnb, hX, hG⟩
      have HPQ4 := Lib.hid (HPQ3.out.nb hnb HRL.out)
      have HN4 := Lib.hid (HN3.out.nb2m hnb HN3.out.size)
      have HX4 := Lib.hid hX; have HG4 := Lib.hid hG; have HE4 := Lib.hid he2
      clear hnb hX hG he2 HC HPQ3 HN3
      have HWs : Hid (W.heap.size ≤ w4.heap.size) := HN4.out.size
      go_wp2_with (at_builtin; refine RowKind.Own.appendB (R := RN) (w := w4.alloc (.cells #[.int .i64 (a2 : Int)] 3)) rfl _ _ rfl (HPQ4.out.alloc _).q rfl [(a2 : Int)] rfl (RowKind.Row.app (ys := [(a2 : Int)]) (RowKind.Row.new (R := RN) w4 (a2 : Int) 3)) (by rw [List.length_singleton]; omega) (Nat.le_trans HWs.out (by simp)) ?_; intro v5 w5 hO3 hg3 hs3; have HA5 := Lib.hid (Appd.mk hg3 hs3); have HPQ5 := Lib.hid ((HPQ4.out.alloc (.cells #[.int .i64 (a2 : Int)] 3)).setQ HA5.out hO3); have HN5 := Lib.hid ((HN4.out.alloc HWs.out (.cells #[.int .i64 (a2 : Int)] 3)).appd HA5.out (Nat.le_trans HWs.out (by simp)) (fun k hk => ((HPQ4.out.alloc (.cells #[.int .i64 (a2 : Int)] 3)).q.lt k hk).1)); have HX5 := Lib.hid ((HX4.out.alloc (.cells #[.int .i64 (a2 : Int)] 3)).nbr HA5.out (HPQ4.out.apQ HRL.out)); clear hO3 hg3 hs3)
      go_roundg (8 - (k + 1))
      case measure => omega
      case rel => exact ⟨k + 1, _, _, _, _, at2, e2, rfl, rfl, by go_num, by omega, by omega, by omega, hPn, by rw [List.length_append, hQl]; rfl, HPQ5.out, HN5.out, HX5.out, HE4.out, HG4.out⟩
    · have hlz : ¬ (k : Int) < (n : Int) - 1 := by omega
      have hgq := HG.out
      rw [show n - 1 - k = 0 by omega, contS_end] at hgq
      have HG9 := Lib.hid hgq
      clear hgq HG
      go_wp2
      go_returns
      exact ⟨pv, bv, P, Q, at0, e0, rfl, HPQ.out, HE.out, HN.out, HX.out, HG9.out⟩
end Go.Proofs.Ytdhmoiiagplbpaa
/- the program's reader: a program -/
namespace Go.Proofs.Ytdhmoiiagplbpaa
open Go.RowKit
set_option linter.unusedVariables false
set_option linter.unusedSimpArgs false

/-- what program answers -/
def PPr (w0 W : World) (rw : Nat) (xs : List Int) (res : Except Nat GV) (P Q : List Int) (ns : List GN) (m : Nat) (x : GN) (e' : Ending) (W' : World) : Prop :=
  ∃ lv L, ∃ at2 e2 : Nat, e' = .returned lv ∧ RC.Own W.heap.size W' lv L ∧ e2 ≤ 100 ∧ Nb2 W.heap.size rw W W' ∧ RX w0 W' rw xs at2 e2 ∧ Gd xs res at2 e2 (contN P Q (ns ++ [⟨x.kind, x.scope, x.arg, L⟩]) m)
set_option maxRecDepth 100000 in
set_option maxHeartbeats 8000000 in
theorem pprog_any {w0 W : World} {rw : Nat} {xs : List Int} {res : Except Nat GV} {at' e : Nat} {P Q : List Int} {ns : List GN} {m : Nat} {x : GN} (h : RX w0 W rw xs at' e) (hB : Below w0.heap.size w0 W) (hrw : w0.heap.size ≤ rw) (hx : okB xs) (hl : xs.length ≤ 9000) (he : e ≤ 100) (hp : x.prog = []) (hG : Gd xs res at' e (fun r => andR (numR 0 64 11 r) fun n r => contI P Q ns m x n r)) :
    Calls Try.prog 49 #[.pointer (some ⟨rw, 0, none⟩)] W (PPr w0 W rw xs res P Q ns m x) := by
  have hrl := h.lt
  obtain ⟨kd, sc, ar, pr⟩ := x
  have hp : pr = [] := hp
  subst hp
  have HC := Lib.hid (pcount_any (least := 0) (most := 64) h hB hx hl he (by decide) (by decide) hG)
  have HBz := Lib.hid hB; have HXo := Lib.hid hx; have HRW := Lib.hid hrw; have HRL := Lib.hid hrl
  have HSm := Lib.hid (fun (W' : World) (at' e : Nat) (f : Nat → CG) (h : RX w0 W' rw xs at' e) (hB : Below w0.heap.size w0 W') (he : e ≤ 100) (hG : Gd xs res at' e (fun r => andR (numR 0 topN 2 r) f)) => psmall_any h hB hx hl he hG)
  have HSg := Lib.hid (fun (W' : World) (at' e : Nat) (f : Int → CG) (h : RX w0 W' rw xs at' e) (hB : Below w0.heap.size w0 W') (he : e ≤ 100) (hG : Gd xs res at' e (fun r => andR (sgnR r) f)) => psgn_c h hB hx hl he hG)
  clear h hB hx hG hrw hrl
  go_enter Try.func49, Try.ntmps49
  go_wp2_with fail
  refine (HC.out).mono ?_
  rintro ee w1 ⟨n, at1, e1, rfl, hn64, hn1, he1, hnb, hX, hG⟩
  have HN1 := Lib.hid hnb
  have HX1 := Lib.hid hX; have HG1 := Lib.hid hG; have HE1 := Lib.hid he1
  clear hnb hX hG he1 hn1 HC he
  go_wp2_with fail
  go_loopg [3, 6] 65 (fun gg p9 i wr => ∃ (k : Nat) (lv : Value) (L : List NV) (at0 e0 : Nat), lv = p9 ∧ i = .int .i64 (k : Int) ∧ 64 - k ≤ gg ∧ k ≤ 64 ∧ k ≤ n ∧ L.length = k ∧ Hid (RC.Own W.heap.size wr lv L) ∧ Hid (Nb2 W.heap.size rw W wr) ∧ Hid (RX w0 wr rw xs at0 e0) ∧ Hid (e0 ≤ 100) ∧ Hid (Gd xs res at0 e0 (contI P Q ns m (GN.mk kd sc ar L) (n - k))))
  case atStart => exact ⟨0, _, [], at1, e1, rfl, rfl, by omega, by omega, by omega, rfl, RowKind.Own.nil RC _ _, HN1.out, HX1.out, HE1.out, HG1.out⟩
  case round =>
    clear HN1 HX1 HE1 HG1
    obtain ⟨k, lv, L, at0, e0, rfl, rfl, hg, hk8, hkn, hLl, HO, HN, HX, HE, HG⟩ := hrel
    by_cases hlt : k < n
    · have hlz : (k : Int) < (n : Int) := by omega
      have hgq := HG.out
      rw [show n - k = (n - (k + 1)) + 1 by omega, contI_step] at hgq
      dsimp only at hgq
      have HC := Lib.hid (HSm.out wr at0 e0 (fun (a : Nat) (r : List Int) => andR (sgnR r) fun (s : Int) (r : List Int) => contI P Q ns m (GN.mk kd sc ar (L ++ [NV.mk (a : Int) s])) (n - (k + 1)) r) HX.out (HN.out.below HBz.out HRW.out HBz.out.size) HE.out hgq)
      clear hgq HG HX HE
      go_wp2_with fail
      refine (HC.out).mono ?_
      rintro ee w2 ⟨a1, at1, e1, rfl, ha1, _, he1, hnb, hX, hG⟩
      have HO2 := Lib.hid (HO.out.nb hnb HRL.out)
      have HN2 := Lib.hid (HN.out.nb2m hnb HN.out.size)
      have HC := Lib.hid (HSg.out w2 at1 e1 (fun (s : Int) (r : List Int) => contI P Q ns m (GN.mk kd sc ar (L ++ [NV.mk (a1 : Int) s])) (n - (k + 1)) r) hX (HN2.out.below HBz.out HRW.out HBz.out.size) he1 hG)
      clear hnb hX hG he1 HO HN ha1
      go_wp2_with fail
      refine (HC.out).mono ?_
      rintro ee w3 ⟨a2, at2, e2, rfl, ha2, he2, hnb, hX, hG⟩
      have HO3 := Lib.hid (HO2.out.nb hnb HRL.out)
      have HN3 := Lib.hid (HN2.out.nb2m hnb HN2.out.size)
      have HX3 := Lib.hid hX; have HG3 := Lib.hid hG; have HE3 := Lib.hid he2
      clear hnb hX hG he2 HC HO2 HN2 ha2
      have HWs : Hid (W.heap.size ≤ w3.heap.size) := HN3.out.size
      go_wp2_with (at_builtin; refine RowKind.Own.appendB (R := RC) (w := w3.alloc (.cells (RC.enc ⟨(a1 : Int), a2⟩).toArray 56)) rfl _ _ rfl (HO3.out.alloc _) rfl [(⟨(a1 : Int), a2⟩ : NV)] rfl (RowKind.Row.app (ys := [(⟨(a1 : Int), a2⟩ : NV)]) (RowKind.Row.new (R := RC) w3 (⟨(a1 : Int), a2⟩ : NV) 56)) (by rw [List.length_singleton]; omega) (Nat.le_trans HWs.out (by simp)) ?_; intro v4 w4 hO4 hg4 hs4; have HA4 := Lib.hid (Appd.mk hg4 hs4); have HO4 := Lib.hid hO4; have HN4 := Lib.hid ((HN3.out.alloc HWs.out (.cells (RC.enc ⟨(a1 : Int), a2⟩).toArray 56)).appd HA4.out (Nat.le_trans HWs.out (by simp)) (fun k hk => ((HO3.out.alloc (.cells (RC.enc ⟨(a1 : Int), a2⟩).toArray 56)).lt k hk).1)); have HX4 := Lib.hid ((HX3.out.alloc (.cells (RC.enc ⟨(a1 : Int), a2⟩).toArray 56)).nbr HA4.out (fun e => by have := ((HO3.out.alloc (.cells (RC.enc ⟨(a1 : Int), a2⟩).toArray 56)).lt rw e).1; have := HRL.out; omega)); clear hO4 hg4 hs4)
      clear HA4 HO3 HN3 HX3 HWs
      go_roundg (64 - (k + 1))
      case measure => omega
      case rel => exact ⟨k + 1, _, _, at2, e2, rfl, by go_num, by omega, by omega, by omega, by rw [List.length_append, hLl]; rfl, HO4.out, HN4.out, HX4.out, HE3.out, HG3.out⟩
    · have hlz : ¬ (k : Int) < (n : Int) := by omega
      have hgq := HG.out
      rw [show n - k = 0 by omega, contI_end] at hgq
      have HG9 := Lib.hid hgq
      clear hgq HG
      go_wp2
      go_returns
      exact ⟨lv, L, at0, e0, rfl, HO.out, HE.out, HN.out, HX.out, HG9.out⟩
end Go.Proofs.Ytdhmoiiagplbpaa
/- the program's reader: the operators -/
namespace Go.Proofs.Ytdhmoiiagplbpaa
open Go.RowKit
set_option linter.unusedVariables false
set_option linter.unusedSimpArgs false

/-- a row of nodes of the call's own, with their programs' rows -/
structure NL (B : Nat) (W : World) (nv : Value) (rs : List NW) (ns : List GN) : Prop where
  nod : RW.Own B W nv rs
  len : rs.length = ns.length
  prg : ∀ i, i < ns.length → isNO B W rs[i]! ns[i]!
namespace NL
variable {B : Nat} {W W' : World} {nv nv' : Value} {rs : List NW} {ns : List GN}
theorem nil (B : Nat) (W : World) : NL B W (.slice none 0 0) [] [] := ⟨RowKind.Own.nil RW _ _, rfl, fun i hi => absurd hi (by simp)⟩
theorem nb {rw : Nat} (h : NL B W nv rs ns) (hn : Nb2 W.heap.size rw W W') (hr : rw < B) : NL B W' nv rs ns :=
  ⟨h.nod.nb hn hr, h.len, fun i hi => ⟨(h.prg i hi).1, (h.prg i hi).2.1, (h.prg i hi).2.2.1, (h.prg i hi).2.2.2.nb hn hr⟩⟩
theorem alloc (h : NL B W nv rs ns) (o : Obj) : NL B (W.alloc o) nv rs ns :=
  ⟨h.nod.alloc o, h.len, fun i hi => ⟨(h.prg i hi).1, (h.prg i hi).2.1, (h.prg i hi).2.2.1, (h.prg i hi).2.2.2.alloc o⟩⟩
theorem push {x : NW} {g : GN} (h : NL B W nv rs ns) (ha : Appd W W' nv nv') (ho : RW.Own B W' nv' (rs ++ [x])) (hx : isNO B W x g) : NL B W' nv' (rs ++ [x]) (ns ++ [g]) := by
  have hl := h.len
  have own : ∀ {y : NW} {z : GN}, isNO B W y z → isNO B W' y z := fun q => ⟨q.1, q.2.1, q.2.2.1, q.2.2.2.grownO h.nod ha.grown (by decide)⟩
  refine ⟨ho, by simp [hl], fun i hi => ?_⟩
  rw [List.length_append, List.length_singleton] at hi
  by_cases hq : i < ns.length
  · have e1 : (rs ++ [x])[i]! = rs[i]! := by rw [getElem!_pos _ i (by simp; omega), getElem!_pos rs i (by omega), List.getElem_append_left]
    have e2 : (ns ++ [g])[i]! = ns[i]! := by rw [getElem!_pos _ i (by simp; omega), getElem!_pos ns i hq, List.getElem_append_left]
    rw [e1, e2]
    exact own (h.prg i hq)
  · obtain rfl : i = ns.length := by omega
    have e1 : (rs ++ [x])[ns.length]! = x := by rw [← hl, getElem!_pos _ rs.length (by simp)]; simp
    have e2 : (ns ++ [g])[ns.length]! = g := by rw [getElem!_pos _ ns.length (by simp)]; simp
    rw [e1, e2]
    exact own hx
end NL
/-- what nodes answers -/
def PNo (w0 W : World) (rw : Nat) (xs : List Int) (res : Except Nat GV) (P Q : List Int) (e' : Ending) (W' : World) : Prop :=
  ∃ nv rs ns, ∃ at2 e2 : Nat, e' = .returned nv ∧ NL W.heap.size W' nv rs ns ∧ e2 ≤ 100 ∧ Nb2 W.heap.size rw W W' ∧ RX w0 W' rw xs at2 e2 ∧ Gd xs res at2 e2 (contEc P Q ns)
set_option maxRecDepth 100000 in
set_option maxHeartbeats 8000000 in
theorem pnods_any {w0 W : World} {rw : Nat} {xs : List Int} {res : Except Nat GV} {at' e : Nat} {P Q : List Int} (h : RX w0 W rw xs at' e) (hB : Below w0.heap.size w0 W) (hrw : w0.heap.size ≤ rw) (hx : okB xs) (hl : xs.length ≤ 9000) (he : e ≤ 100) (hG : Gd xs res at' e (contNc P Q)) :
    Calls Try.prog 33 #[.pointer (some ⟨rw, 0, none⟩)] W (PNo w0 W rw xs res P Q) := by
  have hrl := h.lt
  have HC := Lib.hid (pcount_any (least := 0) (most := 32) h hB hx hl he (by decide) (by decide) hG)
  have HBz := Lib.hid hB; have HXo := Lib.hid hx; have HRW := Lib.hid hrw; have HRL := Lib.hid hrl
  have HSm := Lib.hid (fun (W' : World) (at' e : Nat) (f : Nat → CG) (h : RX w0 W' rw xs at' e) (hB : Below w0.heap.size w0 W') (he : e ≤ 100) (hG : Gd xs res at' e (fun r => andR (numR 0 topN 2 r) f)) => psmall_any h hB hx hl he hG)
  have HSg := Lib.hid (fun (W' : World) (at' e : Nat) (f : Int → CG) (h : RX w0 W' rw xs at' e) (hB : Below w0.heap.size w0 W') (he : e ≤ 100) (hG : Gd xs res at' e (fun r => andR (sgnR r) f)) => psgn_c h hB hx hl he hG)
  have HPr := Lib.hid (fun (W' : World) (at' e : Nat) (P Q : List Int) (ns : List GN) (m : Nat) (x : GN) (h : RX w0 W' rw xs at' e) (hB : Below w0.heap.size w0 W') (he : e ≤ 100) (hp : x.prog = []) (hG : Gd xs res at' e (fun r => andR (numR 0 64 11 r) fun n r => contI P Q ns m x n r)) => pprog_any h hB hrw hx hl he hp hG)
  clear h hB hx hG hrw hrl
  go_enter Try.func33, Try.ntmps33
  go_wp2_with fail
  refine (HC.out).mono ?_
  rintro ee w1 ⟨n, at1, e1, rfl, hn64, hn1, he1, hnb, hX, hG⟩
  have HN1 := Lib.hid hnb
  have HX1 := Lib.hid hX; have HG1 := Lib.hid hG; have HE1 := Lib.hid he1
  clear hnb hX hG he1 hn1 HC he
  go_wp2_with fail
  go_loopg [3, 6] 33 (fun gg p9 i wr => ∃ (k : Nat) (nv : Value) (rs : List NW) (ns : List GN) (at0 e0 : Nat), nv = p9 ∧ i = .int .i64 (k : Int) ∧ 32 - k ≤ gg ∧ k ≤ 32 ∧ k ≤ n ∧ ns.length = k ∧ Hid (NL W.heap.size wr nv rs ns) ∧ Hid (Nb2 W.heap.size rw W wr) ∧ Hid (RX w0 wr rw xs at0 e0) ∧ Hid (e0 ≤ 100) ∧ Hid (Gd xs res at0 e0 (contN P Q ns (n - k))))
  case atStart => exact ⟨0, _, [], [], at1, e1, rfl, rfl, by omega, by omega, by omega, rfl, NL.nil _ _, HN1.out, HX1.out, HE1.out, HG1.out⟩
  case round =>
    clear HN1 HX1 HE1 HG1
    obtain ⟨k, nv, rs, ns, at0, e0, rfl, rfl, hg, hk8, hkn, hLl, HO0, HN0, HX, HE, HG⟩ := hrel
    by_cases hlt : k < n
    · have hlz : (k : Int) < (n : Int) := by omega
      have hgq := HG.out
      rw [show n - k = (n - (k + 1)) + 1 by omega, contN_step] at hgq
      have HC := Lib.hid (HSm.out wr at0 e0 (fun (a : Nat) (r : List Int) => andR (numR 0 topN 2 r) fun (c : Nat) (r : List Int) => andR (sgnR r) fun (s : Int) (r : List Int) => andR (numR 0 64 11 r) fun (j : Nat) (r : List Int) => contI P Q ns (n - (k + 1)) (GN.mk (a : Int) (c : Int) s []) j r) HX.out (HN0.out.below HBz.out HRW.out HBz.out.size) HE.out hgq)
      clear hgq HG HX HE
      go_wp2_with fail
      refine (HC.out).mono ?_
      rintro ee w2 ⟨a1, at1, e1, rfl, ha1, _, he1, hnb, hX, hG⟩
      have HO1 := Lib.hid (HO0.out.nb hnb HRL.out)
      have HN1 := Lib.hid (HN0.out.nb2m hnb HN0.out.size)
      have HC := Lib.hid (HSm.out w2 at1 e1 (fun (c : Nat) (r : List Int) => andR (sgnR r) fun (s : Int) (r : List Int) => andR (numR 0 64 11 r) fun (j : Nat) (r : List Int) => contI P Q ns (n - (k + 1)) (GN.mk (a1 : Int) (c : Int) s []) j r) hX (HN1.out.below HBz.out HRW.out HBz.out.size) he1 hG)
      clear hnb hX hG he1 HO0 HN0 ha1
      go_wp2_with fail
      refine (HC.out).mono ?_
      rintro ee w3 ⟨a2, at2, e2, rfl, ha2, _, he2, hnb, hX, hG⟩
      have HO2 := Lib.hid (HO1.out.nb hnb HRL.out)
      have HN2 := Lib.hid (HN1.out.nb2m hnb HN1.out.size)
      have HC := Lib.hid (HSg.out w3 at2 e2 (fun (s : Int) (r : List Int) => andR (numR 0 64 11 r) fun (j : Nat) (r : List Int) => contI P Q ns (n - (k + 1)) (GN.mk (a1 : Int) (a2 : Int) s []) j r) hX (HN2.out.below HBz.out HRW.out HBz.out.size) he2 hG)
      clear hnb hX hG he2 HO1 HN1 ha2
      go_wp2_with fail
      refine (HC.out).mono ?_
      rintro ee w4 ⟨a3, at3, e3, rfl, ha3, he3, hnb, hX, hG⟩
      have HO3 := Lib.hid (HO2.out.nb hnb HRL.out)
      have HN3 := Lib.hid (HN2.out.nb2m hnb HN2.out.size)
      have HWs : Hid (W.heap.size ≤ w4.heap.size) := HN3.out.size
      have HC := Lib.hid (HPr.out w4 at3 e3 P Q ns (n - (k + 1)) (GN.mk (a1 : Int) (a2 : Int) a3 []) hX (HN3.out.below HBz.out HRW.out HBz.out.size) he3 rfl hG)
      clear hnb hX hG he3 HO2 HN2 ha3
      go_wp2_with fail
      refine (HC.out).mono ?_
      rintro ee w5 ⟨lv, L, at4, e4, rfl, hL, he4, hnb, hX, hG⟩
      have HO4 := Lib.hid (HO3.out.nb hnb HRL.out)
      have HN4 := Lib.hid (HN3.out.nb2m hnb HN3.out.size)
      have HX4 := Lib.hid hX; have HG4 := Lib.hid hG; have HE4 := Lib.hid he4
      obtain ⟨p4, n4, c4, rfl⟩ : ∃ p4 n4 c4, lv = .slice p4 n4 c4 := by obtain ⟨p, c, e⟩ := hL.is.slice; exact ⟨p, _, c, e⟩
      have HI4 : Hid (isNO W.heap.size w5 (NW.mk (a1 : Int) (a2 : Int) a3 p4 n4 c4) (GN.mk (a1 : Int) (a2 : Int) a3 L)) := ⟨rfl, rfl, rfl, hL.mono HWs.out⟩
      clear hnb hX hG he4 HC HO3 HN3 hL HWs
      have HWs : Hid (W.heap.size ≤ w5.heap.size) := HN4.out.size
      have hlen := HO4.out.len
      go_wp2_with (at_builtin; refine RowKind.Own.appendB (R := RW) (w := w5.alloc (.cells (RW.enc (NW.mk (a1 : Int) (a2 : Int) a3 p4 n4 c4)).toArray 46)) rfl _ _ rfl (HO4.out.alloc _).nod rfl [(NW.mk (a1 : Int) (a2 : Int) a3 p4 n4 c4)] rfl (RowKind.Row.app (ys := [(NW.mk (a1 : Int) (a2 : Int) a3 p4 n4 c4)]) (RowKind.Row.new (R := RW) w5 (NW.mk (a1 : Int) (a2 : Int) a3 p4 n4 c4) 46)) (by rw [List.length_singleton]; omega) (Nat.le_trans HWs.out (by simp)) ?_; intro v6 w6 hO4 hg4 hs4; have HA4 := Lib.hid (Appd.mk hg4 hs4); have HO6 := Lib.hid ((HO4.out.alloc (.cells (RW.enc (NW.mk (a1 : Int) (a2 : Int) a3 p4 n4 c4)).toArray 46)).push HA4.out hO4 ⟨HI4.out.1, HI4.out.2.1, HI4.out.2.2.1, HI4.out.2.2.2.alloc (.cells (RW.enc (NW.mk (a1 : Int) (a2 : Int) a3 p4 n4 c4)).toArray 46)⟩); have HN6 := Lib.hid ((HN4.out.alloc HWs.out (.cells (RW.enc (NW.mk (a1 : Int) (a2 : Int) a3 p4 n4 c4)).toArray 46)).appd HA4.out (Nat.le_trans HWs.out (by simp)) (fun k hk => ((HO4.out.alloc (.cells (RW.enc (NW.mk (a1 : Int) (a2 : Int) a3 p4 n4 c4)).toArray 46)).nod.lt k hk).1)); have HX6 := Lib.hid ((HX4.out.alloc (.cells (RW.enc (NW.mk (a1 : Int) (a2 : Int) a3 p4 n4 c4)).toArray 46)).nbr HA4.out (fun e => by have := ((HO4.out.alloc (.cells (RW.enc (NW.mk (a1 : Int) (a2 : Int) a3 p4 n4 c4)).toArray 46)).nod.lt rw e).1; have := HRL.out; omega)); clear hO4 hg4 hs4)
      clear HA4 HO4 HN4 HX4 HWs HI4
      go_roundg (32 - (k + 1))
      case measure => omega
      case rel => exact ⟨k + 1, _, _, _, at4, e4, rfl, by go_num, by omega, by omega, by omega, by rw [List.length_append, hLl]; rfl, HO6.out, HN6.out, HX6.out, HE4.out, HG4.out⟩
    · have hlz : ¬ (k : Int) < (n : Int) := by omega
      have hgq := HG.out
      rw [show n - k = 0 by omega, contN_end] at hgq
      have HG9 := Lib.hid hgq
      clear hgq HG
      go_wp2
      go_returns
      exact ⟨nv, rs, ns, at0, e0, rfl, HO0.out, HE.out, HN0.out, HX.out, HG9.out⟩
end Go.Proofs.Ytdhmoiiagplbpaa
/- the program's reader: the edges -/
namespace Go.Proofs.Ytdhmoiiagplbpaa
open Go.RowKit
set_option linter.unusedVariables false
set_option linter.unusedSimpArgs false

/-- what edges answers -/
def PEd (w0 W : World) (rw : Nat) (xs : List Int) (res : Except Nat GV) (P Q : List Int) (ns : List GN) (e' : Ending) (W' : World) : Prop :=
  ∃ ev es, ∃ at2 e2 : Nat, e' = .returned ev ∧ RE.Own W.heap.size W' ev es ∧ e2 ≤ 100 ∧ Nb2 W.heap.size rw W W' ∧ RX w0 W' rw xs at2 e2 ∧ Gd xs res at2 e2 (contF ⟨P, Q, ns, es⟩)
set_option maxRecDepth 100000 in
set_option maxHeartbeats 8000000 in
theorem pedgs_any {w0 W : World} {rw : Nat} {xs : List Int} {res : Except Nat GV} {at' e : Nat} {P Q : List Int} {ns : List GN} (h : RX w0 W rw xs at' e) (hB : Below w0.heap.size w0 W) (hrw : w0.heap.size ≤ rw) (hx : okB xs) (hl : xs.length ≤ 9000) (he : e ≤ 100) (hG : Gd xs res at' e (contEc P Q ns)) :
    Calls Try.prog 34 #[.pointer (some ⟨rw, 0, none⟩)] W (PEd w0 W rw xs res P Q ns) := by
  have hrl := h.lt
  have HC := Lib.hid (pcount_any (least := 0) (most := 64) h hB hx hl he (by decide) (by decide) hG)
  have HBz := Lib.hid hB; have HXo := Lib.hid hx; have HRW := Lib.hid hrw; have HRL := Lib.hid hrl
  have HSm := Lib.hid (fun (W' : World) (at' e : Nat) (f : Nat → CG) (h : RX w0 W' rw xs at' e) (hB : Below w0.heap.size w0 W') (he : e ≤ 100) (hG : Gd xs res at' e (fun r => andR (numR 0 topN 2 r) f)) => psmall_any h hB hx hl he hG)
  have HBi := Lib.hid (fun (W' : World) (at' e : Nat) (f : Nat → CG) (h : RX w0 W' rw xs at' e) (hB : Below w0.heap.size w0 W') (he : e ≤ 100) (hG : Gd xs res at' e (fun r => andR (numR 0 1 4 r) f)) => pexch_any h hB hx hl he hG)
  clear h hB hx hG hrw hrl
  go_enter Try.func34, Try.ntmps34
  go_wp2_with fail
  refine (HC.out).mono ?_
  rintro ee w1 ⟨n, at1, e1, rfl, hn64, hn1, he1, hnb, hX, hG⟩
  have HN1 := Lib.hid hnb
  have HX1 := Lib.hid hX; have HG1 := Lib.hid hG; have HE1 := Lib.hid he1
  clear hnb hX hG he1 hn1 HC he
  go_wp2_with fail
  go_loopg [3, 6] 65 (fun gg p9 i wr => ∃ (k : Nat) (ev : Value) (es : List GE) (at0 e0 : Nat), ev = p9 ∧ i = .int .i64 (k : Int) ∧ 64 - k ≤ gg ∧ k ≤ 64 ∧ k ≤ n ∧ es.length = k ∧ Hid (RE.Own W.heap.size wr ev es) ∧ Hid (Nb2 W.heap.size rw W wr) ∧ Hid (RX w0 wr rw xs at0 e0) ∧ Hid (e0 ≤ 100) ∧ Hid (Gd xs res at0 e0 (contE P Q ns es (n - k))))
  case atStart => exact ⟨0, _, [], at1, e1, rfl, rfl, by omega, by omega, by omega, rfl, RowKind.Own.nil RE _ _, HN1.out, HX1.out, HE1.out, HG1.out⟩
  case round =>
    clear HN1 HX1 HE1 HG1
    obtain ⟨k, ev, es, at0, e0, rfl, rfl, hg, hk8, hkn, hLl, HO0, HN0, HX, HE, HG⟩ := hrel
    by_cases hlt : k < n
    · have hlz : (k : Int) < (n : Int) := by omega
      have hgq := HG.out
      rw [show n - k = (n - (k + 1)) + 1 by omega, contE_step] at hgq
      have HC := Lib.hid (HSm.out wr at0 e0 (fun (a : Nat) (r : List Int) => andR (numR 0 topN 2 r) fun (c : Nat) (r : List Int) => andR (numR 0 topN 2 r) fun (d : Nat) (r : List Int) => andR (numR 0 1 4 r) fun (x : Nat) (r : List Int) => contE P Q ns (es ++ [GE.mk (a : Int) (c : Int) (d : Int) (x == 1)]) (n - (k + 1)) r) HX.out (HN0.out.below HBz.out HRW.out HBz.out.size) HE.out hgq)
      clear hgq HG HX HE
      go_wp2_with fail
      refine (HC.out).mono ?_
      rintro ee w2 ⟨a1, at1, e1, rfl, ha1, _, he1, hnb, hX, hG⟩
      have HO1 := Lib.hid (HO0.out.nb hnb HRL.out)
      have HN1 := Lib.hid (HN0.out.nb2m hnb HN0.out.size)
      have HC := Lib.hid (HSm.out w2 at1 e1 (fun (c : Nat) (r : List Int) => andR (numR 0 topN 2 r) fun (d : Nat) (r : List Int) => andR (numR 0 1 4 r) fun (x : Nat) (r : List Int) => contE P Q ns (es ++ [GE.mk (a1 : Int) (c : Int) (d : Int) (x == 1)]) (n - (k + 1)) r) hX (HN1.out.below HBz.out HRW.out HBz.out.size) he1 hG)
      clear hnb hX hG he1 HO0 HN0 ha1
      go_wp2_with fail
      refine (HC.out).mono ?_
      rintro ee w3 ⟨a2, at2, e2, rfl, ha2, _, he2, hnb, hX, hG⟩
      have HO2 := Lib.hid (HO1.out.nb hnb HRL.out)
      have HN2 := Lib.hid (HN1.out.nb2m hnb HN1.out.size)
      have HC := Lib.hid (HSm.out w3 at2 e2 (fun (d : Nat) (r : List Int) => andR (numR 0 1 4 r) fun (x : Nat) (r : List Int) => contE P Q ns (es ++ [GE.mk (a1 : Int) (a2 : Int) (d : Int) (x == 1)]) (n - (k + 1)) r) hX (HN2.out.below HBz.out HRW.out HBz.out.size) he2 hG)
      clear hnb hX hG he2 HO1 HN1 ha2
      go_wp2_with fail
      refine (HC.out).mono ?_
      rintro ee w4 ⟨a3, at3, e3, rfl, ha3, _, he3, hnb, hX, hG⟩
      have HO3 := Lib.hid (HO2.out.nb hnb HRL.out)
      have HN3 := Lib.hid (HN2.out.nb2m hnb HN2.out.size)
      have HC := Lib.hid (HBi.out w4 at3 e3 (fun (x : Nat) (r : List Int) => contE P Q ns (es ++ [GE.mk (a1 : Int) (a2 : Int) (a3 : Int) (x == 1)]) (n - (k + 1)) r) hX (HN3.out.below HBz.out HRW.out HBz.out.size) he3 hG)
      clear hnb hX hG he3 HO2 HN2 ha3
      go_wp2_with fail
      refine (HC.out).mono ?_
      rintro ee w5 ⟨a4, at4, e4, rfl, ha4, he4, hnb, hX, hG⟩
      have HO4 := Lib.hid (HO3.out.nb hnb HRL.out)
      have HN4 := Lib.hid (HN3.out.nb2m hnb HN3.out.size)
      have HX4 := Lib.hid hX; have HG4 := Lib.hid hG; have HE4 := Lib.hid he4
      clear hnb hX hG he4 HC HO3 HN3 ha4
      have HWs : Hid (W.heap.size ≤ w5.heap.size) := HN4.out.size
      go_wp2_with (at_builtin; refine RowKind.Own.appendB (R := RE) (w := w5.alloc (.cells (RE.enc (GE.mk (a1 : Int) (a2 : Int) (a3 : Int) (a4 == 1))).toArray 58)) rfl _ _ rfl (HO4.out.alloc _) rfl [(GE.mk (a1 : Int) (a2 : Int) (a3 : Int) (a4 == 1))] rfl (RowKind.Row.app (ys := [(GE.mk (a1 : Int) (a2 : Int) (a3 : Int) (a4 == 1))]) (RowKind.Row.new (R := RE) w5 (GE.mk (a1 : Int) (a2 : Int) (a3 : Int) (a4 == 1)) 58)) (by rw [List.length_singleton]; omega) (Nat.le_trans HWs.out (by simp)) ?_; intro v6 w6 hO4 hg4 hs4; have HA4 := Lib.hid (Appd.mk hg4 hs4); have HO6 := Lib.hid hO4; have HN6 := Lib.hid ((HN4.out.alloc HWs.out (.cells (RE.enc (GE.mk (a1 : Int) (a2 : Int) (a3 : Int) (a4 == 1))).toArray 58)).appd HA4.out (Nat.le_trans HWs.out (by simp)) (fun k hk => ((HO4.out.alloc (.cells (RE.enc (GE.mk (a1 : Int) (a2 : Int) (a3 : Int) (a4 == 1))).toArray 58)).lt k hk).1)); have HX6 := Lib.hid ((HX4.out.alloc (.cells (RE.enc (GE.mk (a1 : Int) (a2 : Int) (a3 : Int) (a4 == 1))).toArray 58)).nbr HA4.out (fun e => by have := ((HO4.out.alloc (.cells (RE.enc (GE.mk (a1 : Int) (a2 : Int) (a3 : Int) (a4 == 1))).toArray 58)).lt rw e).1; have := HRL.out; omega)); clear hO4 hg4 hs4)
      clear HA4 HO4 HN4 HX4 HWs
      go_roundg (64 - (k + 1))
      case measure => omega
      case rel => exact ⟨k + 1, _, _, at4, e4, rfl, by go_num, by omega, by omega, by omega, by rw [List.length_append, hLl]; rfl, HO6.out, HN6.out, HX6.out, HE4.out, HG4.out⟩
    · have hlz : ¬ (k : Int) < (n : Int) := by omega
      have hgq := HG.out
      rw [show n - k = 0 by omega, contE_end] at hgq
      have HG9 := Lib.hid hgq
      clear hgq HG
      go_wp2
      go_returns
      exact ⟨ev, es, at0, e0, rfl, HO0.out, HE.out, HN0.out, HX.out, HG9.out⟩
end Go.Proofs.Ytdhmoiiagplbpaa
/- the program's Read -/
namespace Go.Proofs.Ytdhmoiiagplbpaa
open Go.RowKit
set_option linter.unusedVariables false
set_option linter.unusedSimpArgs false

/-- a graph that the program is reading: the result's box, its own box, its rows -/
structure RG (B gb rb : Nat) (w : World) (pv bv nv ev : Value) (P Q : List Int) (rs : List NW) (ns : List GN) (es : List GE) : Prop where
  gbox : w.heap[gb]? = some (.cells #[pv, bv, nv, ev] 26 (0, 0))
  rbox : w.heap[rb]? = some (.cells zeroG 26 (0, 0))
  pq : PQ B w pv bv P Q
  nl : NL B w nv rs ns
  ed : RE.Own B w ev es
  hg : gb < B
  hr : rb < gb
theorem RowKind.Own.keepB {α : Type} {R : RowKind α} {B : Nat} {W W' : World} {v : Value} {xs : List α} (h : R.Own B W v xs) (hk : ∀ l, B ≤ l → l < W.heap.size → W'.heap[l]? = W.heap[l]?) : R.Own B W' v xs :=
  h.keepW fun l hl => hk l (h.lt l hl).1 (h.lt l hl).2
theorem PQ.keepB {B : Nat} {W W' : World} {pv bv : Value} {P Q : List Int} (h : PQ B W pv bv P Q) (hk : ∀ l, B ≤ l → l < W.heap.size → W'.heap[l]? = W.heap[l]?) : PQ B W' pv bv P Q := ⟨h.p.keepB hk, h.q.keepB hk, h.sep⟩
theorem PQ.mono {B B' : Nat} {W : World} {pv bv : Value} {P Q : List Int} (h : PQ B W pv bv P Q) (hb : B' ≤ B) : PQ B' W pv bv P Q := ⟨h.p.mono hb, h.q.mono hb, h.sep⟩
theorem NL.keepB {B : Nat} {W W' : World} {nv : Value} {rs : List NW} {ns : List GN} (h : NL B W nv rs ns) (hk : ∀ l, B ≤ l → l < W.heap.size → W'.heap[l]? = W.heap[l]?) : NL B W' nv rs ns :=
  ⟨h.nod.keepB hk, h.len, fun i hi => ⟨(h.prg i hi).1, (h.prg i hi).2.1, (h.prg i hi).2.2.1, (h.prg i hi).2.2.2.keepB hk⟩⟩
theorem NL.mono {B B' : Nat} {W : World} {nv : Value} {rs : List NW} {ns : List GN} (h : NL B W nv rs ns) (hb : B' ≤ B) : NL B' W nv rs ns :=
  ⟨h.nod.mono hb, h.len, fun i hi => ⟨(h.prg i hi).1, (h.prg i hi).2.1, (h.prg i hi).2.2.1, (h.prg i hi).2.2.2.mono hb⟩⟩
namespace RG
variable {B gb rb : Nat} {W W' : World} {pv bv nv ev : Value} {P Q : List Int} {rs : List NW} {ns : List GN} {es : List GE}
theorem lt (h : RG B gb rb W pv bv nv ev P Q rs ns es) : gb < W.heap.size := (Array.getElem?_eq_some_iff.1 h.gbox).1
theorem grow (h : RG B gb rb W pv bv nv ev P Q rs ns es) : rowOf W gb = some #[pv, bv, nv, ev] := by unfold rowOf; rw [h.gbox]; rfl
theorem rrow (h : RG B gb rb W pv bv nv ev P Q rs ns es) : rowOf W rb = some zeroG := by unfold rowOf; rw [h.rbox]; rfl
theorem nb {rw : Nat} (h : RG B gb rb W pv bv nv ev P Q rs ns es) (hn : Nb2 W.heap.size rw W W') (h1 : rw < gb) (h2 : rw ≠ rb) : RG B gb rb W' pv bv nv ev P Q rs ns es :=
  have hk : ∀ l, B ≤ l → l < W.heap.size → W'.heap[l]? = W.heap[l]? := fun l h3 h4 => hn.block l h4 (by have := h.hg; omega)
  ⟨(hn.block gb h.lt (by omega)).trans h.gbox, (hn.block rb (by have := h.lt; have := h.hr; omega) (Ne.symm h2)).trans h.rbox, h.pq.keepB hk, h.nl.keepB hk, h.ed.keepB hk, h.hg, h.hr⟩
theorem keepS (h : RG B gb rb W pv bv nv ev P Q rs ns es) (i : Nat) (u : Value) : ∀ l, B ≤ l → l < W.heap.size → (W.setCell ⟨gb, i, none⟩ u).heap[l]? = W.heap[l]? := fun l h1 h2 => Below.heap_setCell W ⟨gb, i, none⟩ u l (by have := h.hg; show l ≠ gb; omega)
theorem setP (h : RG B gb rb W pv bv nv ev P Q rs ns es) {pv' bv' : Value} {P' Q' : List Int} (hp : PQ B W pv' bv' P' Q') : RG B gb rb ((W.setCell ⟨gb, 0, none⟩ pv').setCell ⟨gb, 1, none⟩ bv') pv' bv' nv ev P' Q' rs ns es :=
  have hk : ∀ l, B ≤ l → l < W.heap.size → ((W.setCell ⟨gb, 0, none⟩ pv').setCell ⟨gb, 1, none⟩ bv').heap[l]? = W.heap[l]? := fun l h1 h2 => (Below.heap_setCell _ ⟨gb, 1, none⟩ bv' l (by have := h.hg; show l ≠ gb; omega)).trans (h.keepS 0 pv' l h1 h2)
  ⟨cellsAt (cellsAt h.gbox 0 pv') 1 bv', (Below.heap_setCell _ ⟨gb, 1, none⟩ bv' rb (by have := h.hr; show rb ≠ gb; omega)).trans ((Below.heap_setCell _ ⟨gb, 0, none⟩ pv' rb (by have := h.hr; show rb ≠ gb; omega)).trans h.rbox), hp.keepB hk, h.nl.keepB hk, h.ed.keepB hk, h.hg, h.hr⟩
theorem setN (h : RG B gb rb W pv bv nv ev P Q rs ns es) {nv' : Value} {rs' : List NW} {ns' : List GN} (hp : NL B W nv' rs' ns') : RG B gb rb (W.setCell ⟨gb, 2, none⟩ nv') pv bv nv' ev P Q rs' ns' es :=
  have hk := h.keepS 2 nv'
  ⟨cellsAt h.gbox 2 nv', (Below.heap_setCell _ ⟨gb, 2, none⟩ nv' rb (by have := h.hr; show rb ≠ gb; omega)).trans h.rbox, h.pq.keepB hk, hp.keepB hk, h.ed.keepB hk, h.hg, h.hr⟩
theorem setE (h : RG B gb rb W pv bv nv ev P Q rs ns es) {ev' : Value} {es' : List GE} (hp : RE.Own B W ev' es') : RG B gb rb (W.setCell ⟨gb, 3, none⟩ ev') pv bv nv ev' P Q rs ns es' :=
  have hk := h.keepS 3 ev'
  ⟨cellsAt h.gbox 3 ev', (Below.heap_setCell _ ⟨gb, 3, none⟩ ev' rb (by have := h.hr; show rb ≠ gb; omega)).trans h.rbox, h.pq.keepB hk, h.nl.keepB hk, hp.keepB hk, h.hg, h.hr⟩
theorem isG (h : RG B gb rb W pv bv nv ev P Q rs ns es) : IsG W (.agg #[pv, bv, nv, ev]) ⟨P, Q, ns, es⟩ :=
  ⟨pv, bv, nv, ev, rfl, h.pq.p.is, h.pq.q.is, ⟨rs, h.nl.nod.is, h.nl.len, fun i hi => (h.nl.prg i hi).isN⟩, h.ed.is⟩
/-- the result is stored -/
theorem isGr (h : RG B gb rb W pv bv nv ev P Q rs ns es) (hn : Nb rb W W') : IsG W' (.agg #[pv, bv, nv, ev]) ⟨P, Q, ns, es⟩ :=
  have hk : ∀ l, B ≤ l → l < W.heap.size → W'.heap[l]? = W.heap[l]? := fun l h3 h4 => hn.block l (by have := h.hg; have := h.hr; omega)
  ⟨pv, bv, nv, ev, rfl, (h.pq.keepB hk).p.is, (h.pq.keepB hk).q.is, ⟨rs, (h.nl.keepB hk).nod.is, h.nl.len, fun i hi => ((h.nl.keepB hk).prg i hi).isN⟩, (h.ed.keepB hk).is⟩
end RG
theorem anySlice {α : Type} [Inhabited α] {R : RowKind α} {B : Nat} {W : World} {v : Value} {xs : List α} (h : R.Own B W v xs) : ∃ p n c, v = .slice p n c := by
  obtain ⟨p, c, e⟩ := h.is.slice
  exact ⟨p, _, c, e⟩
theorem setSize (W : World) (p : Addr) (u : Value) : (W.setCell p u).heap.size = W.heap.size := by simp [World.setCell]
theorem capOk_own {B : Nat} {W : World} {v : Value} {xs : List Int} (h : RN.Own B W v xs) : capOk v := by
  obtain ⟨_, ⟨rfl, _⟩ | ⟨g, cap, cur, rfl, _, _, h1, h2, _⟩⟩ := h
  · intro p n c e
    cases e
    decide
  · intro p n c e
    cases e
    exact h1
/-- what Read answers -/
def ReadP (xs : List Int) (w : World) (e : Ending) (w' : World) : Prop :=
  Below w.heap.size w w' ∧ ((∃ g gv, readG xs = .ok g ∧ e = .returned (.tuple #[gv, .int .i64 0]) ∧ IsG w' gv g ∧ roomG gv) ∨ (∃ er : Nat, readG xs = .error er ∧ er ≠ 0 ∧ er ≤ 100 ∧ e = .returned (.tuple #[noG, .int .i64 (er : Int)])))
set_option maxRecDepth 100000 in
set_option maxHeartbeats 4000000 in
theorem pread_long (p : Option Addr) (n c : Nat) (w : World) (h : 8192 < n) : Calls Try.prog 14 #[.slice p n c] w (Ret (.tuple #[noG, .int .i64 11]) w) := by
  have h1 : (n : Int) > 8192 := by omega
  go_enter Try.func14, Try.ntmps14
  go_wp2
  go_returns
  exact ⟨rfl, balloc9 (Below.refl _ _)⟩
set_option maxRecDepth 100000 in
set_option maxHeartbeats 8000000 in
theorem pread_main (xs : List Int) (p : Option Addr) (c : Nat) (w : World) (hI : RB.Is w (.slice p xs.length c) xs) (hc : xs.length ≤ c) (hx : okB xs) (hl : xs.length ≤ 8192) :
    Calls Try.prog 14 #[.slice p xs.length c] w (ReadP xs w) := by
  have hres : andR (headR xs) (fun _ r => contSc r) = readG xs := by rw [readG_is, if_neg (by omega)]
  unfold ReadP
  generalize readG xs = res at *
  have zl : ¬ (xs.length : Int) > 8192 := by omega
  have HX0 : Hid (RX w ((w.alloc (.cells #[.slice none 0 0, .slice none 0 0, .slice none 0 0, .slice none 0 0] 26)).alloc (.cells #[.slice p xs.length c, .int .i64 0] 65)) (w.heap.size + 1) xs 0 0) := ⟨p, c, by have := heap_alloc_new (w.alloc (.cells #[.slice none 0 0, .slice none 0 0, .slice none 0 0, .slice none 0 0] 26)) (.cells #[.slice p xs.length c, .int .i64 0] 65); rw [World.size_alloc] at this; exact this, hI, hc⟩
  have HB0 := Lib.hid (balloc9 (o := .cells #[.slice p xs.length c, .int .i64 0] 65) (balloc9 (o := (.cells #[.slice none 0 0, .slice none 0 0, .slice none 0 0, .slice none 0 0] 26)) (Below.refl w.heap.size w)))
  have HC := Lib.hid (pbegin_any HX0.out HB0.out hx (by omega) hres)
  have hrl := HX0.out.lt
  have hzb : ((w.alloc (.cells #[.slice none 0 0, .slice none 0 0, .slice none 0 0, .slice none 0 0] 26)).alloc (.cells #[.slice p xs.length c, .int .i64 0] 65)).heap[w.heap.size]? = some (.cells #[.slice none 0 0, .slice none 0 0, .slice none 0 0, .slice none 0 0] 26 (0, 0)) := (Below.heap_alloc _ _ _ (by simp)).trans (heap_alloc_new w _)
  have HZ := Lib.hid hzb
  have HSz : Hid (w.heap.size < ((w.alloc (.cells #[.slice none 0 0, .slice none 0 0, .slice none 0 0, .slice none 0 0] 26)).alloc (.cells #[.slice p xs.length c, .int .i64 0] 65)).heap.size) := by show _ < _; rw [World.size_alloc, World.size_alloc]; omega
  have HSc := Lib.hid (fun (W : World) (at' e : Nat) (h : RX w W (w.heap.size + 1) xs at' e) (hB : Below w.heap.size w W) (he : e ≤ 100) (hG : Gd xs res at' e contSc) => pscop_any h hB (Nat.le_succ _) hx (by omega) he hG)
  have HNo := Lib.hid (fun (W : World) (at' e : Nat) (P Q : List Int) (h : RX w W (w.heap.size + 1) xs at' e) (hB : Below w.heap.size w W) (he : e ≤ 100) (hG : Gd xs res at' e (contNc P Q)) => pnods_any h hB (Nat.le_succ _) hx (by omega) he hG)
  have HEd := Lib.hid (fun (W : World) (at' e : Nat) (P Q : List Int) (ns : List GN) (h : RX w W (w.heap.size + 1) xs at' e) (hB : Below w.heap.size w W) (he : e ≤ 100) (hG : Gd xs res at' e (contEc P Q ns)) => pedgs_any h hB (Nat.le_succ _) hx (by omega) he hG)
  clear hres hI hzb hrl hx HX0
  go_enter Try.func14, Try.ntmps14
  generalize hQ9 : bodyPost _ _ _ = Q9
  have HQ9 := Lib.hid hQ9
  clear hQ9
  go_wp2_with fail
  refine (HC.out).mono ?_
  rintro ee w1 ⟨at1, e1, rfl, he1, hn1, hX, hG⟩
  have HX1 := Lib.hid hX; have HG1 := Lib.hid hG; have HE1 := Lib.hid he1
  have HZ1 := Lib.hid ((hn1.block w.heap.size HSz.out (by omega)).trans HZ.out)
  have HB1 := Lib.hid (hn1.below HB0.out (Nat.le_succ _) HB0.out.size)
  have hs1 : w.heap.size + 1 < w1.heap.size := hX.lt
  have HS1 := Lib.hid hs1
  have HLe : Hid (w.heap.size ≤ w1.heap.size) := by show _ ≤ _; omega
  have HNe : Hid (w.heap.size + 1 ≠ w1.heap.size) := by show _ ≠ _; omega
  have HR2 : Hid (RG (w1.heap.size + 1) w1.heap.size w.heap.size (w1.alloc (.cells #[.slice none 0 0, .slice none 0 0, .slice none 0 0, .slice none 0 0] 26)) (.slice none 0 0) (.slice none 0 0) (.slice none 0 0) (.slice none 0 0) [] [] [] [] []) := ⟨heap_alloc_new w1 _, (Below.heap_alloc w1 _ _ (by omega)).trans HZ1.out, ⟨RowKind.Own.nil RN _ _, RowKind.Own.nil RN _ _, fun k h => by cases h⟩, NL.nil _ _, RowKind.Own.nil RE _ _, by omega, by omega⟩
  have HB2 := Lib.hid (balloc9 (o := (.cells #[.slice none 0 0, .slice none 0 0, .slice none 0 0, .slice none 0 0] 26)) HB1.out)
  have HX2 := Lib.hid (HX1.out.alloc (.cells #[.slice none 0 0, .slice none 0 0, .slice none 0 0, .slice none 0 0] 26))
  have HC := Lib.hid (HSc.out _ at1 e1 HX2.out HB2.out HE1.out HG1.out)
  have hz2 : (w1.alloc (.cells #[.slice none 0 0, .slice none 0 0, .slice none 0 0, .slice none 0 0] 26)).heap.size = w1.heap.size + 1 := World.size_alloc _ _
  have HZs := Lib.hid hz2
  clear hn1 hX hG he1 hs1 HZ HB0 HX1 HG1 HZ1 HB1 HE1 HSc hz2 HX2
  go_wp2_with fail
  refine (HC.out).mono ?_
  rintro ee w2 ⟨pv, bv, P, Q, at2, e2, rfl, hpq, he2, hn2, hX, hG⟩
  rw [HZs.out] at hpq
  obtain ⟨p1, n1, c1, rfl⟩ := anySlice hpq.p
  obtain ⟨p2, n2, c2, rfl⟩ := anySlice hpq.q
  have HR3 := Lib.hid ((HR2.out.nb hn2 HS1.out (by omega)).setP hpq)
  have HB3 := Lib.hid (((hn2.below HB2.out (Nat.le_succ _) HB2.out.size).setCell (p := ⟨w1.heap.size, 0, none⟩) HLe.out (.slice p1 n1 c1)).setCell (p := ⟨w1.heap.size, 1, none⟩) HLe.out (.slice p2 n2 c2))
  have HX3 := Lib.hid ((hX.keep (W' := (w2.setCell ⟨w1.heap.size, 0, none⟩ (.slice p1 n1 c1)).setCell ⟨w1.heap.size, 1, none⟩ (.slice p2 n2 c2)) ((Below.heap_setCell _ ⟨w1.heap.size, 1, none⟩ (.slice p2 n2 c2) _ HNe.out).trans (Below.heap_setCell _ ⟨w1.heap.size, 0, none⟩ (.slice p1 n1 c1) _ HNe.out))))
  have hgr := (HR2.out.nb hn2 HS1.out (by omega)).grow
  have f0 := rowOf_frozen hgr 0
  have f1 := rowOf_frozen hgr 1
  have x0 : w2.cell? ⟨w1.heap.size, 0, none⟩ = some (.slice none 0 0) := rowOf_cell hgr 0
  have x1 : w2.cell? ⟨w1.heap.size, 1, none⟩ = some (.slice none 0 0) := rowOf_cell hgr 1
  have HW3 : Hid (w1.heap.size + 1 ≤ w2.heap.size) := by have := hn2.size; rw [HZs.out] at this; exact this
  have HG3 := Lib.hid hG; have HE3 := Lib.hid he2
  have HC := Lib.hid (HNo.out _ at2 e2 P Q HX3.out HB3.out HE3.out HG3.out)
  clear hpq hn2 hX hG he2 HR2 HB2 HX3 HZs hgr HG3 HE3 HNo
  go_wp2_with fail
  refine (HC.out).mono ?_
  rintro ee w3 ⟨nv, rs, ns, at3, e3, rfl, hnl, he3, hn3, hX, hG⟩
  obtain ⟨p3, n3, c3, rfl⟩ := anySlice hnl.nod
  have HR4 := Lib.hid ((HR3.out.nb hn3 HS1.out (by omega)).setN (hnl.mono (by rw [setSize, setSize]; exact HW3.out)))
  have HB4 := Lib.hid ((hn3.below HB3.out (Nat.le_succ _) HB3.out.size).setCell (p := ⟨w1.heap.size, 2, none⟩) HLe.out (.slice p3 n3 c3))
  have HX4 := Lib.hid ((hX.keep (W' := w3.setCell ⟨w1.heap.size, 2, none⟩ (.slice p3 n3 c3)) (Below.heap_setCell _ ⟨w1.heap.size, 2, none⟩ (.slice p3 n3 c3) _ HNe.out)))
  have hgr := (HR3.out.nb hn3 HS1.out (by omega)).grow
  have f2 := rowOf_frozen hgr 2
  have x2 : w3.cell? ⟨w1.heap.size, 2, none⟩ = some (.slice none 0 0) := rowOf_cell hgr 2
  have HW4 : Hid (w1.heap.size + 1 ≤ w3.heap.size) := Nat.le_trans HW3.out (by have := hn3.size; rw [setSize, setSize] at this; exact this)
  have HG4 := Lib.hid hG; have HE4 := Lib.hid he3
  have HC := Lib.hid (HEd.out _ at3 e3 P Q ns HX4.out HB4.out HE4.out HG4.out)
  clear hnl hn3 hX hG he3 HR3 HB3 hgr HX4 HG4 HE4 HEd x0 x1 f0 f1 HW3
  go_wp2_with fail
  refine (HC.out).mono ?_
  rintro ee w4 ⟨ev, es, at4, e4, rfl, hed, he4, hn4, hX, hG⟩
  obtain ⟨p4, n4, c4, rfl⟩ := anySlice hed
  have HR5 := Lib.hid ((HR4.out.nb hn4 HS1.out (by omega)).setE (hed.mono (by rw [setSize]; exact HW4.out)))
  have HB5 := Lib.hid ((hn4.below HB4.out (Nat.le_succ _) HB4.out.size).setCell (p := ⟨w1.heap.size, 3, none⟩) HLe.out (.slice p4 n4 c4))
  have hX5 := ((hX.keep (W' := w4.setCell ⟨w1.heap.size, 3, none⟩ (.slice p4 n4 c4)) (Below.heap_setCell _ ⟨w1.heap.size, 3, none⟩ (.slice p4 n4 c4) _ HNe.out)))
  have hgr := (HR4.out.nb hn4 HS1.out (by omega)).grow
  have f3 := rowOf_frozen hgr 3
  have x3 : w4.cell? ⟨w1.heap.size, 3, none⟩ = some (.slice none 0 0) := rowOf_cell hgr 3
  have HC := Lib.hid (pend_any hX5 he4 hG)
  clear hed hn4 hX hG he4 HR4 HB4 hgr hX5 x2 f2 HW4
  go_wp2_with fail
  refine (HC.out).mono ?_
  rintro ee w5 ⟨at5, e5, rfl, he5, hn5, hX, hR⟩
  have HR6 := Lib.hid (HR5.out.nb hn5 HS1.out (by omega))
  have HB6 := Lib.hid (hn5.below HB5.out (Nat.le_succ _) HB5.out.size)
  obtain ⟨pr, cr, hxr⟩ := hX.row
  have y1 : w5.cell? ⟨w.heap.size + 1, 1, none⟩ = some (.int .i64 (e5 : Int)) := rowOf_cell hxr 1
  have r0 : w5.cell? ⟨w.heap.size, 0, none⟩ = some (.slice none 0 0) := rowOf_cell HR6.out.rrow 0
  have r1 : w5.cell? ⟨w.heap.size, 1, none⟩ = some (.slice none 0 0) := rowOf_cell HR6.out.rrow 1
  have r2 : w5.cell? ⟨w.heap.size, 2, none⟩ = some (.slice none 0 0) := rowOf_cell HR6.out.rrow 2
  have r3 : w5.cell? ⟨w.heap.size, 3, none⟩ = some (.slice none 0 0) := rowOf_cell HR6.out.rrow 3
  have q0 := rowOf_frozen HR6.out.rrow 0
  have q1 := rowOf_frozen HR6.out.rrow 1
  have q2 := rowOf_frozen HR6.out.rrow 2
  have q3 := rowOf_frozen HR6.out.rrow 3
  have hwb : w.heap.size ≤ w.heap.size := Nat.le_refl _
  clear hn5 hX HR5 HB5 x3 f3 HC hxr
  rcases hR with ⟨rfl, rfl⟩ | ⟨h0, rfl⟩
  · have t0 : w5.cell? ⟨w1.heap.size, 0, none⟩ = some (.slice p1 n1 c1) := rowOf_cell HR6.out.grow 0
    have t1 : w5.cell? ⟨w1.heap.size, 1, none⟩ = some (.slice p2 n2 c2) := rowOf_cell HR6.out.grow 1
    have t2 : w5.cell? ⟨w1.heap.size, 2, none⟩ = some (.slice p3 n3 c3) := rowOf_cell HR6.out.grow 2
    have t3 : w5.cell? ⟨w1.heap.size, 3, none⟩ = some (.slice p4 n4 c4) := rowOf_cell HR6.out.grow 3
    have hng : w1.heap.size ≠ w.heap.size := by have := HNe.out; have := HS1.out; omega
    have HRo : Hid (roomG (.agg #[.slice p1 n1 c1, .slice p2 n2 c2, .slice p3 n3 c3, .slice p4 n4 c4])) := ⟨_, _, _, _, rfl, capOk_own HR6.out.pq.p, capOk_own HR6.out.pq.q⟩
    have HIG := Lib.hid (fun W (hW : Nb w.heap.size w5 W) => HR6.out.isGr hW)
    clear HR6 HS1 HLe HNe
    go_wp2_with fail
    rw [← HQ9.out]
    exact bodyPost_ret (v := .tuple #[.agg #[.slice p1 n1 c1, .slice p2 n2 c2, .slice p3 n3 c3, .slice p4 n4 c4], .int .i64 0]) (by simp [results, Try.results14, go_sem, r0, r1, r2, r3]) rfl ⟨(by repeat' (first | exact HB6.out | apply Below.drew | refine Below.setCell ?_ (by first | exact hwb | exact Nat.le_refl _) _)), .inl ⟨_, _, rfl, rfl, HIG.out _ (by repeat' (first | exact Nb.refl _ _ | apply Nb.set)), HRo.out⟩⟩
  · have heb3 : ((e5 : Int) != 0) = true := by simp; omega
    have HE9 := Lib.hid h0
    have HE5 := Lib.hid he5
    clear h0 HR6 HS1 HLe HNe he5
    go_wp2_with fail
    rw [← HQ9.out]
    go_region_law (fail)
    all_goals rw [HQ9.out]
    all_goals try simp only [List.getElem_toArray, List.getElem_cons_succ, List.getElem_cons_zero, Act.put, List.setIfInBounds_toArray, List.set_cons_zero, List.set_cons_succ]
    all_goals go_wp2_with fail
    all_goals rw [← HQ9.out]
    all_goals exact bodyPost_ret (v := .tuple #[noG, .int .i64 (e5 : Int)]) (by simp [results, Try.results14, go_sem, r0, r1, r2, r3]) rfl ⟨(by repeat' (first | exact HB6.out | apply Below.drew | refine Below.setCell ?_ (by first | exact hwb | exact Nat.le_refl _) _)), .inr ⟨e5, rfl, HE9.out, HE5.out, rfl⟩⟩
end Go.Proofs.Ytdhmoiiagplbpaa
/- Read, the document's and the program's, of any bytes -/
namespace Go.Proofs.Ytdhmoiiagplbpaa
open Go.RowKit
set_option linter.unusedVariables false
set_option linter.unusedSimpArgs false

theorem pread_any (xs : List Int) (p : Option Addr) (c : Nat) (w : World) (hI : RB.Is w (.slice p xs.length c) xs) (hc : xs.length ≤ c) (hx : okB xs) :
    Calls Try.prog 14 #[.slice p xs.length c] w (ReadP xs w) := by
  by_cases hL : 8192 < xs.length
  · refine (pread_long p _ c w hL).mono ?_
    rintro e w' ⟨rfl, hb⟩
    exact ⟨hb, .inr ⟨11, by rw [readG_is, if_pos hL], by decide, by decide, rfl⟩⟩
  · exact pread_main xs p c w hI hc hx (by omega)
theorem hd0 : ∀ {xs : List Int}, xs ≠ [] → xs[0]! ≠ 66 → headR xs = .error 4
  | [], h, _ => absurd rfl h
  | [a], _, h => by have h : a ≠ 66 := h; simp [headR, h]
  | [a, b], _, h => by have h : a ≠ 66 := h; simp [headR, h]
  | a :: b :: c :: t, _, h => by have h : a ≠ 66 := h; simp [headR, h]
theorem hd1 : ∀ {xs : List Int}, 1 < xs.length → xs[0]! = 66 → xs[1]! ≠ 87 → headR xs = .error 4
  | [], h, _, _ => by simp at h
  | [a], h, _, _ => by simp at h
  | [a, b], _, g, h => by have g : a = 66 := g; have h : b ≠ 87 := h; simp [headR, g, h]
  | a :: b :: c :: t, _, g, h => by have g : a = 66 := g; have h : b ≠ 87 := h; simp [headR, g, h]
theorem hd2 : ∀ {xs : List Int}, 2 < xs.length → xs[0]! = 66 → xs[1]! = 87 → xs[2]! ≠ 49 → headR xs = .error 4
  | [], h, _, _, _ => by simp at h
  | [a], h, _, _, _ => by simp at h
  | [a, b], h, _, _, _ => by simp at h
  | a :: b :: c :: t, _, g, f, h => by have g : a = 66 := g; have f : b = 87 := f; have h : c ≠ 49 := h; simp [headR, g, f, h]
theorem hs1 : ∀ {xs : List Int}, xs.length = 1 → xs[0]! = 66 → headR xs = .error 3
  | [], h, _ => by simp at h
  | [a], _, g => by have g : a = 66 := g; subst g; rfl
  | a :: b :: t, h, _ => by simp at h
theorem hs2 : ∀ {xs : List Int}, xs.length = 2 → xs[0]! = 66 → xs[1]! = 87 → headR xs = .error 3
  | [], h, _, _ => by simp at h
  | [a], h, _, _ => by simp at h
  | [a, b], _, g, f => by have g : a = 66 := g; have f : b = 87 := f; subst g; subst f; rfl
  | a :: b :: c :: t, h, _, _ => by simp at h
theorem rread_any (xs : List Int) (p : Option Addr) (c : Nat) (w : World) (hI : RB.Is w (.slice p xs.length c) xs) (hc : xs.length ≤ c) (hx : okB xs) :
    Calls Try.prog 15 #[.slice p xs.length c] w (ReadR xs w) := by
  by_cases hL : 8192 < xs.length
  · refine (rread_long p _ c w hL).mono ?_
    rintro e w' ⟨rfl, hb⟩
    exact ⟨hb, .inr ⟨11, by rw [readG_is, if_pos hL], by decide, by decide, rfl⟩⟩
  have err : ∀ er : Nat, headR xs = .error er → er ≠ 0 → er ≤ 100 → ∀ e w', Ret (.tuple #[noG, .int .i64 (er : Int)]) w e w' → ReadR xs w e w' := by
    rintro er h h0 h1 e w' ⟨rfl, hb⟩
    exact ⟨hb, .inr ⟨er, by rw [readG_is, if_neg hL, h]; rfl, h0, h1, rfl⟩⟩
  rcases hI with ⟨rfl, _⟩ | ⟨hne, b, off, c', e, hb, hr⟩
  · exact (rread_h0 p c w).mono (err 3 rfl (by decide) (by decide))
  simp only [Value.slice.injEq] at e
  obtain ⟨rfl, _, rfl⟩ := e
  have hn : 0 < xs.length := List.length_pos_iff.2 hne
  have s0 := atB hr 0 hn
  by_cases g0 : xs[0]! = 66
  · rw [g0] at s0
    by_cases n1 : xs.length = 1
    · have q := (rread_h1 b off c w hb s0).mono (err 3 (hs1 n1 g0) (by decide) (by decide))
      rw [← n1] at q
      exact q
    have s1 := atB hr 1 (by omega)
    by_cases g1 : xs[1]! = 87
    · rw [g1] at s1
      by_cases n2 : xs.length = 2
      · have q := (rread_h2 b off c w hb s0 s1).mono (err 3 (hs2 n2 g0 g1) (by decide) (by decide))
        rw [← n2] at q
        exact q
      have s2 := atB hr 2 (by omega)
      by_cases g2 : xs[2]! = 49
      · exact rread_main xs b off c w hb hr hc hx (by omega) (by omega) g0 g1 g2
      · exact (rread_x2 b off _ c _ w hb (by omega) (by omega) s0 s1 s2 g2).mono (err 4 (hd2 (by omega) g0 g1 g2) (by decide) (by decide))
    · exact (rread_x1 b off _ c _ w hb (by omega) (by omega) s0 s1 g1).mono (err 4 (hd1 (by omega) g0 g1) (by decide) (by decide))
  · exact (rread_x0 b off _ c _ w hb hn (by omega) s0 g0).mono (err 4 (hd0 hne g0) (by decide) (by decide))
end Go.Proofs.Ytdhmoiiagplbpaa
/- awake -/
namespace Go.Proofs.Ytdhmoiiagplbpaa
open Go.RowKit
set_option linter.unusedVariables false
set_option linter.unusedSimpArgs false

def g0 : GV := ⟨[-1], [0], [⟨1, 0, 0, []⟩], []⟩
theorem g0_fits : fitsG g0 := by decide
theorem g0_ok : okG g0 := by
  intro x hx
  simp [g0] at hx
  subst hx
  exact ⟨by decide, fun y hy => by cases hy⟩
theorem g0_put : putG g0 = [66, 87, 49, 1, 1, 1, 0, 0, 0, 0] := by decide +kernel
theorem g0_read : readG [66, 87, 49, 1, 1, 1, 0, 0, 0, 0] = .ok g0 := by
  have := put_back g0_fits g0_ok
  rw [g0_put, if_neg (by decide)] at this
  exact this
theorem g0_is (w : World) : IsG (((w.alloc (.cells #[.int .i64 (-1)] 3)).alloc (.cells #[.int .i64 0] 3)).alloc (.cells #[.int .i64 1, .int .i64 0, .int .i64 0, .slice none 0 0] 46)) (.agg #[.slice (some ⟨w.heap.size, 0, none⟩) 1 1, .slice (some ⟨w.heap.size + 1, 0, none⟩) 1 1, .slice (some ⟨w.heap.size + 1 + 1, 0, none⟩) 1 1, .slice none 0 0]) g0 := by
  have hs : ∀ (W : World) (o : Obj) (k : Nat), k = W.heap.size → (W.alloc o).heap[k]? = some o := fun W o k e => by rw [e]; exact heap_alloc_new W o
  have hk : ∀ (W : World) (o : Obj) (k : Nat) (x : Obj), W.heap[k]? = some x → (W.alloc o).heap[k]? = some x := fun W o k x h => (Below.heap_alloc W o k (Array.getElem?_eq_some_iff.1 h).1).trans h
  have a1 : (((w.alloc (.cells #[.int .i64 (-1)] 3)).alloc (.cells #[.int .i64 0] 3)).alloc (.cells #[.int .i64 1, .int .i64 0, .int .i64 0, .slice none 0 0] 46)).heap[w.heap.size]? = some (.cells #[.int .i64 (-1)] 3) := hk _ _ _ _ (hk _ _ _ _ (hs _ _ _ rfl))
  have a2 : (((w.alloc (.cells #[.int .i64 (-1)] 3)).alloc (.cells #[.int .i64 0] 3)).alloc (.cells #[.int .i64 1, .int .i64 0, .int .i64 0, .slice none 0 0] 46)).heap[w.heap.size + 1]? = some (.cells #[.int .i64 0] 3) := hk _ _ _ _ (hs _ _ _ (by simp))
  have a3 : (((w.alloc (.cells #[.int .i64 (-1)] 3)).alloc (.cells #[.int .i64 0] 3)).alloc (.cells #[.int .i64 1, .int .i64 0, .int .i64 0, .slice none 0 0] 46)).heap[w.heap.size + 1 + 1]? = some (.cells #[.int .i64 1, .int .i64 0, .int .i64 0, .slice none 0 0] 46) := hs _ _ _ (by simp)
  have o1 : RN.Own 0 (((w.alloc (.cells #[.int .i64 (-1)] 3)).alloc (.cells #[.int .i64 0] 3)).alloc (.cells #[.int .i64 1, .int .i64 0, .int .i64 0, .slice none 0 0] 46)) (.slice (some ⟨w.heap.size, 0, none⟩) 1 1) [-1] := ⟨rfl, .inr ⟨w.heap.size, 1, _, rfl, Nat.zero_le _, a1, by decide, by decide, rfl, rfl⟩⟩
  have o2 : RN.Own 0 (((w.alloc (.cells #[.int .i64 (-1)] 3)).alloc (.cells #[.int .i64 0] 3)).alloc (.cells #[.int .i64 1, .int .i64 0, .int .i64 0, .slice none 0 0] 46)) (.slice (some ⟨w.heap.size + 1, 0, none⟩) 1 1) [0] := ⟨rfl, .inr ⟨w.heap.size + 1, 1, _, rfl, Nat.zero_le _, a2, by decide, by decide, rfl, rfl⟩⟩
  have o3 : RW.Own 0 (((w.alloc (.cells #[.int .i64 (-1)] 3)).alloc (.cells #[.int .i64 0] 3)).alloc (.cells #[.int .i64 1, .int .i64 0, .int .i64 0, .slice none 0 0] 46)) (.slice (some ⟨w.heap.size + 1 + 1, 0, none⟩) 1 1) [⟨1, 0, 0, none, 0, 0⟩] := ⟨rfl, .inr ⟨w.heap.size + 1 + 1, 1, _, rfl, Nat.zero_le _, a3, by decide, by decide, rfl, rfl⟩⟩
  refine ⟨_, _, _, _, rfl, o1.is, o2.is, ⟨_, o3.is, rfl, fun i hi => ?_⟩, (RowKind.Own.nil RE 0 _).is⟩
  obtain rfl : i = 0 := by have hi : i < 1 := hi; omega
  exact ⟨rfl, rfl, rfl, (RowKind.Own.nil RC 0 _).is⟩
theorem g0_room (w : World) : roomG (.agg #[.slice (some ⟨w.heap.size, 0, none⟩) 1 1, .slice (some ⟨w.heap.size + 1, 0, none⟩) 1 1, .slice (some ⟨w.heap.size + 1 + 1, 0, none⟩) 1 1, .slice none 0 0]) := ⟨_, _, _, _, rfl, fun p n c e => by cases e; decide, fun p n c e => by cases e; decide⟩
/-- the graph that is read back, in memory -/
theorem g0_seen {w : World} {gv : Value} (h : IsG w gv g0) : ∃ p1 c1 p2 c2 b off c3 p4 c4 p5 n5 c5, gv = .agg #[.slice p1 1 c1, .slice p2 1 c2, .slice (some ⟨b, off, none⟩) 1 c3, .slice p4 0 c4] ∧ b < w.heap.size ∧ w.cell? ⟨b, off, none⟩ = some (.int .i64 1) ∧ w.cell? ⟨b, off + 1, none⟩ = some (.int .i64 0) ∧ w.cell? ⟨b, off + 2, none⟩ = some (.int .i64 0) ∧ w.cell? ⟨b, off + 3, none⟩ = some (.slice p5 n5 c5) := by
  obtain ⟨pv, bv, nv, ev, rfl, h1, h2, ⟨xs, h3, h5, h6⟩, h4⟩ := h
  obtain ⟨p1, c1, rfl⟩ := h1.slice
  obtain ⟨p2, c2, rfl⟩ := h2.slice
  obtain ⟨p4, c4, rfl⟩ := h4.slice
  obtain ⟨p3, c3, rfl, ho⟩ := h3.opened
  have h5 : xs.length = 1 := h5
  obtain ⟨b, off, rfl, hb, hr⟩ := ho 0 (by omega)
  obtain ⟨q0, q1, q2, q3⟩ := atW hr 0 (by omega)
  obtain ⟨k0, k1, k2, _⟩ := h6 0 (by decide)
  rw [k0] at q0
  rw [k1] at q1
  rw [k2] at q2
  rw [h5]
  exact ⟨p1, c1, p2, c2, b, off, c3, p4, c4, _, _, _, rfl, hb, q0, q1, q2, q3⟩
set_option maxRecDepth 100000 in
set_option maxHeartbeats 8000000 in
theorem awake_any (w : World) : Calls Try.prog 7 #[] w (Ret (.bool true) w) := by
  have HP := Lib.hid (pput_yes g0 _ _ (g0_is w) (g0_room w) g0_fits g0_ok)
  have HB0 := Lib.hid (balloc9 (o := .cells #[.int .i64 1, .int .i64 0, .int .i64 0, .slice none 0 0] 46) (balloc9 (o := .cells #[.int .i64 0] 3) (balloc9 (o := .cells #[.int .i64 (-1)] 3) (Below.refl w.heap.size w))))
  go_enter Try.func7, Try.ntmps7
  go_wp2_with fail
  refine (HP.out).mono ?_
  rintro ee w1 ⟨u, rfl, hI, hcp, hb⟩
  rw [g0_put] at hI
  have HB1 := Lib.hid (HB0.out.trans (hb.mono HB0.out.size))
  rcases hI with ⟨e, _⟩ | ⟨_, b, off, c, rfl, hbl, hr⟩
  · cases e
  have z5 : w1.cell? ⟨b, off + 5, none⟩ = some (.int .u8 1) := atB hr 5 (by decide)
  have hcap : ([66, 87, 49, 1, 1, 1, 0, 0, 0, 0] : List Int).length ≤ c := hcp _ _ _ rfl
  clear hcp
  have HR := Lib.hid (pread_any [66, 87, 49, 1, 1, 1, 0, 0, 0, 0] (some ⟨b, off, none⟩) c w1 (.inr ⟨by simp, b, off, c, rfl, hbl, hr⟩) hcap (by rw [← g0_put]; exact putG_ok g0_fits g0_ok))
  unfold ReadP at HR
  rw [g0_read] at HR
  have HBl := Lib.hid hbl
  have HZ := Lib.hid z5
  clear hb hr hbl HB0 HP z5
  go_wp2_with fail
  refine (HR.out).mono ?_
  rintro ee w2 ⟨hb2, hq⟩
  obtain ⟨gv, rfl, hG⟩ : ∃ gv, ee = .returned (.tuple #[gv, .int .i64 0]) ∧ IsG w2 gv g0 := by
    rcases hq with ⟨g, gv, e1, e2, hG, _⟩ | ⟨er, e1, _⟩
    · cases e1
      exact ⟨gv, e2, hG⟩
    · cases e1
  clear hq
  obtain ⟨p1, c1, p2, c2, b3, off3, c3, p4, c4, p5, n5, c5, rfl, hb3, q0, q1, q2, q3⟩ := g0_seen hG
  have HB2 := Lib.hid (HB1.out.trans (hb2.mono HB1.out.size))
  have z5 : w2.cell? ⟨b, off + 5, none⟩ = some (.int .u8 1) := (hb2.cell HBl.out).trans HZ.out
  have hne : b ≠ w2.heap.size := by have := HBl.out; have := hb2.size; omega
  have hne3 : b3 ≠ w2.heap.size := by omega
  have hbw2 : b < w2.heap.size := by have := HBl.out; have := hb2.size; omega
  clear hG hb2 HZ HBl HB1 HR hcap
  go_wp2
  go_returns
  exact ⟨rfl, by repeat' (first | exact HB2.out | refine Below.setCell ?_ HB2.out.size _ | refine Below.alloc ?_ HB2.out.size _)⟩
end Go.Proofs.Ytdhmoiiagplbpaa
/- what Read answers, as a graph and an error -/
namespace Go.Proofs.Ytdhmoiiagplbpaa
open Go.RowKit
set_option linter.unusedVariables false
set_option linter.unusedSimpArgs false

def ansG (r : Except Nat GV) : GV × Nat := match r with
  | .ok g => (g, 0)
  | .error e => (⟨[], [], [], []⟩, e)
theorem noG_is (w : World) : IsG w noG ⟨[], [], [], []⟩ :=
  ⟨_, _, _, _, rfl, (RowKind.Own.nil RN 0 w).is, (RowKind.Own.nil RN 0 w).is, ⟨[], (RowKind.Own.nil RW 0 w).is, rfl, fun i hi => absurd hi (by simp)⟩, (RowKind.Own.nil RE 0 w).is⟩
theorem noG_room : roomG noG := ⟨_, _, _, _, rfl, fun p n c e => by cases e; decide, fun p n c e => by cases e; decide⟩
def AnsP (r : GV × Nat) (w : World) (e : Ending) (w' : World) : Prop := ∃ gv, e = .returned (.tuple #[gv, .int .i64 (r.2 : Int)]) ∧ IsG w' gv r.1 ∧ roomG gv ∧ Below w.heap.size w w'
def AnsR (r : GV × Nat) (w : World) (e : Ending) (w' : World) : Prop := ∃ gv, e = .returned (.tuple #[gv, .int .i64 (r.2 : Int)]) ∧ IsG w' gv r.1 ∧ Below w.heap.size w w'
theorem ReadP.ans {xs : List Int} {w w' : World} {e : Ending} (h : ReadP xs w e w') : AnsP (ansG (readG xs)) w e w' := by
  obtain ⟨hb, ⟨g, gv, h1, h2, h3, h4⟩ | ⟨er, h1, h2, h3, h4⟩⟩ := h
  · rw [h1]; exact ⟨gv, h2, h3, h4, hb⟩
  · rw [h1]; exact ⟨noG, h4, noG_is _, noG_room, hb⟩
theorem ReadR.ans {xs : List Int} {w w' : World} {e : Ending} (h : ReadR xs w e w') : AnsR (ansG (readG xs)) w e w' := by
  obtain ⟨hb, ⟨g, gv, h1, h2, h3⟩ | ⟨er, h1, h2, h3, h4⟩⟩ := h
  · rw [h1]; exact ⟨gv, h2, h3, hb⟩
  · rw [h1]; exact ⟨noG, h4, noG_is _, hb⟩
/-- a graph's value: four slices -/
theorem IsG.four {w : World} {v : Value} {g : GV} (h : IsG w v g) : ∃ p1 n1 c1 p2 n2 c2 p3 n3 c3 p4 n4 c4, v = .agg #[.slice p1 n1 c1, .slice p2 n2 c2, .slice p3 n3 c3, .slice p4 n4 c4] ∧ n1 = g.parent.length ∧ n3 = g.nodes.length := by
  obtain ⟨pv, bv, nv, ev, rfl, h1, h2, ⟨xs, h3, h5, _⟩, h4⟩ := h
  obtain ⟨p1, c1, rfl⟩ := h1.slice
  obtain ⟨p2, c2, rfl⟩ := h2.slice
  obtain ⟨p3, c3, rfl⟩ := h3.slice
  obtain ⟨p4, c4, rfl⟩ := h4.slice
  exact ⟨p1, _, c1, p2, _, c2, p3, _, c3, p4, _, c4, rfl, rfl, h5⟩
theorem fits_short {g : GV} (h : fitsG g) : g.nodes.length ≤ 900000 ∧ g.edges.length ≤ 900000 ∧ g.parent.length ≤ 900000 ∧ g.bound.length ≤ 900000 ∧ ∀ x ∈ g.nodes, x.prog.length ≤ 900000 := by
  obtain ⟨_, h1, h2, h3, h4, _, _, _, _, h5, _⟩ := h
  exact ⟨by omega, by omega, by omega, by omega, fun x hx => by have := h5 x hx; unfold fitsN at this; omega⟩
theorem ans_short {xs : List Int} (hx : okB xs) : (ansG (readG xs)).1.nodes.length ≤ 900000 ∧ (ansG (readG xs)).1.edges.length ≤ 900000 ∧ (ansG (readG xs)).1.parent.length ≤ 900000 ∧ (ansG (readG xs)).1.bound.length ≤ 900000 ∧ ∀ x ∈ (ansG (readG xs)).1.nodes, x.prog.length ≤ 900000 := by
  generalize hr : readG xs = r
  match r, hr with
  | .ok g, hr => exact fits_short (read_back hx hr).1
  | .error e, _ => exact ⟨Nat.zero_le _, Nat.zero_le _, Nat.zero_le _, Nat.zero_le _, fun x hx => by cases hx⟩
end Go.Proofs.Ytdhmoiiagplbpaa
