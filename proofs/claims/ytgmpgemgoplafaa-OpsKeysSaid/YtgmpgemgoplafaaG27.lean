/- what comes of a key's items, as an iterator: ofKey's closure, where it tells one record -/
import Derived.Test.YtgmpgemgoplafaaG20
import Derived.Test.YtgmpgemgoplafaaG26
import Derived.Test.YtgmpgemgoplafaaG23
import Derived.Test.YtgmpgemgoplafaaG25
namespace Go.Proofs.Ytgmpgemgoplafaa
open Go.RowKit Go.Shelf
attribute [local go_sem] Oper.semAt_some
set_option linter.unusedVariables false
set_option linter.unusedSimpArgs false

set_option maxRecDepth 100000 in
set_option maxHeartbeats 4000000 in
theorem ofKey_iter (Kp : World → World → Prop) (Bk Bm Bo : Nat) (kind : Int) (mine others : List IV) (b off cap : Nat) (vo : Value) (w : World)
    (hBk : Bk < w.heap.size) (hBm : Bm < w.heap.size) (hBo : Bo < w.heap.size) (c1 : w.cell? ⟨Bk, 0, none⟩ = some (.int .i64 kind)) (c2 : w.cell? ⟨Bm, 0, none⟩ = some (.slice (some ⟨b, off, none⟩) mine.length cap)) (c3 : w.cell? ⟨Bo, 0, none⟩ = some vo)
    (h0 : 0 < mine.length) (hl : mine.length ≤ 900000) (hlo : others.length ≤ 900000) (hb : b < w.heap.size) (hr : RI.Row w b off mine) (ho : RI.Is w vo others)
    (hq : ∀ c ∈ mine, inR c.t.v ∧ 0 ≤ c.n ∧ c.n ≤ 2147483648) (hqo : ∀ c ∈ others, inR c.t.v ∧ 0 ≤ c.n ∧ c.n ≤ 2147483648) :
    Iter Try.prog 67 #[.pointer (some ⟨Bk, 0, none⟩), .pointer (some ⟨Bm, 0, none⟩), .pointer (some ⟨Bo, 0, none⟩)] encO Kp [(figureO kind mine others, 1)] w := fun l J Jx W hW hJ hJx hY hj => by
  have d1 := (hW.cell (p := ⟨Bk, 0, none⟩) hBk).trans c1
  have d2 := (hW.cell (p := ⟨Bm, 0, none⟩) hBm).trans c2
  have d3 := (hW.cell (p := ⟨Bo, 0, none⟩) hBo).trans c3
  have HF := Lib.hid (figure_any kind mine others b off cap vo W h0 hl hlo (Nat.lt_of_lt_of_le hb hW.size) (hr.below hW hb) (ho.below hW) hq hqo)
  clear c1 c2 c3 hr ho hq hqo h0 hl hlo
  generalize figureO kind mine others = fig at *
  refine (callsIn_wide (n := 3)).1 ?_
  refine callsIn_of_wp Try.func67 rfl trivial ?_ rfl
  simp only [Try.ntmps67, List.size_toArray, List.length_cons, List.length_nil, Nat.reduceAdd, Nat.reduceSub, Array.replicate_succ, Array.replicate_zero, List.push_toArray, List.append_toArray, List.nil_append, List.cons_append]
  gi_wp2_with (refine ⟨trivial, ?_⟩; gi_at_call 68; refine (callsIn_wide.2 HF.out).mono ?_; rintro e W1 ⟨rfl, hb1⟩; obtain ⟨fn, tmps, assign, body, hy, hR⟩ := (yield_any (hY [] (fig, 1) W1 (by simp) (hJ [] W W1 none hj (grown_of_below hb1) (fun r e => by cases e)))).1 2; dsimp only [encO] at hy)
  refine hR.mono ?_
  rintro e W2 (⟨rfl, hJ2, _⟩ | ⟨rfl, hx2⟩)
  · gi_wp2
    go_end0
    exact ⟨⟨_, rfl⟩, .inl hJ2⟩
  · gi_wp2
    go_end0
    exact ⟨⟨_, rfl⟩, .inr ⟨_, List.prefix_rfl, hx2.1⟩⟩
end Go.Proofs.Ytgmpgemgoplafaa
/- pairs, keys, ofKey: what they hand back is an iterator -/
namespace Go.Proofs.Ytgmpgemgoplafaa
open Go.RowKit Go.Shelf
set_option linter.unusedVariables false
set_option linter.unusedSimpArgs false

theorem heap_old {w : World} {k : Nat} {o : Obj} (h : w.heap[k]? = some o) (o' : Obj) : (w.alloc o').heap[k]? = some o := (Below.heap_alloc w o' k (Array.getElem?_eq_some_iff.1 h).1).trans h
theorem heap_new (w : World) (o : Obj) (k : Nat) (h : k = w.heap.size) : (w.alloc o).heap[k]? = some o := by rw [h]; exact World.alloc_heap_new w o
/-- an iterator's value is handed back -/
def GivesI (Kp : World → World → Prop) (ys : List (RV × Int)) (w : World) (e : Ending) (w' : World) : Prop :=
  ∃ gf lb, e = .returned (.func (.func gf) #[] lb) ∧ Below w.heap.size w w' ∧ (∀ args W, (callFunc gf args).run Try.prog W = .ok (.enter gf args) W) ∧ Iter Try.prog gf lb encO Kp ys w'
set_option maxRecDepth 100000 in
theorem pairs_call (p1 p2 : Option Addr) (n1 c1 n2 c2 : Nat) (w : World) : Calls Try.prog 66 #[.slice p1 n1 c1, .slice p2 n2 c2] w fun e w' =>
    e = .returned (.func (.func 81) #[] #[.pointer (some ⟨w.heap.size, 0, none⟩), .pointer (some ⟨w.heap.size + 1, 0, none⟩)]) ∧ w' = (w.alloc (.cells #[.slice p1 n1 c1] 28)).alloc (.cells #[.slice p2 n2 c2] 28) := by
  go_enter Try.func66, Try.ntmps66
  go_wp2
  go_returns
  exact ⟨rfl, rfl⟩
set_option maxRecDepth 100000 in
theorem keys_call (p1 p2 : Option Addr) (n1 c1 n2 c2 : Nat) (w : World) : Calls Try.prog 54 #[.slice p1 n1 c1, .slice p2 n2 c2] w fun e w' =>
    e = .returned (.func (.func 64) #[] #[.pointer (some ⟨w.heap.size, 0, none⟩), .pointer (some ⟨w.heap.size + 1, 0, none⟩)]) ∧ w' = (w.alloc (.cells #[.slice p1 n1 c1] 28)).alloc (.cells #[.slice p2 n2 c2] 28) := by
  go_enter Try.func54, Try.ntmps54
  go_wp2
  go_returns
  exact ⟨rfl, rfl⟩
def keyL (kind : Int) (m o : List IV) : List (RV × Int) := if kind = 9 then pairsL m o else [(figureO kind m o, 1)]
theorem below_ptr {Br Bl : Nat} {w w' : World} (h : Below w.heap.size w w') (hl : Bl < w.heap.size) (hp : ∀ g, rowPtr w Bl = some g → g < w.heap.size) : ∀ g, rowPtr w' Bl = some g → g < w.heap.size := fun g e => by
  rw [rowPtr_eq (h.block Bl hl)] at e
  exact hp g e
set_option maxRecDepth 100000 in
set_option maxHeartbeats 4000000 in
theorem ofKey_any {Kp : World → World → Prop} (Br Bl : Nat) (hKp : ∀ A B, Kp A B → KpL Br Bl A B) (kind : Int) (mine others : List IV) (u1 u2 : Value) (w : World) (hlB : Bl < w.heap.size) (hrB : Br < w.heap.size) (hptr : ∀ g, rowPtr w Bl = some g → g < w.heap.size)
    (h0 : 0 < mine.length) (hl : mine.length ≤ 900000) (hlo : others.length ≤ 900000) (hq : ∀ c ∈ mine, (inR c.t.k ∧ inR c.t.v) ∧ 0 ≤ c.n ∧ c.n ≤ 2147483648) (hqo : ∀ c ∈ others, (inR c.t.k ∧ inR c.t.v) ∧ 0 ≤ c.n ∧ c.n ≤ 2147483648)
    (hu : ∀ W', KpL Br Bl w W' → RI.Is W' u1 mine ∧ RI.Is W' u2 others) : Calls Try.prog 55 #[.int .i64 kind, u1, u2] w (GivesI Kp (keyL kind mine others) w) := by
  have hw0 := hu w (KpL.refl _ _ _)
  obtain ⟨p1, c1, rfl⟩ := hw0.1.slice
  obtain ⟨po, co, rfl⟩ := hw0.2.slice
  obtain ⟨b, off, rfl, hb, hrow⟩ := is_row' hw0.1 h0
  by_cases h9 : kind = 9
  · subst h9
    have HI : Hid (GivesI Kp (keyL 9 mine others) w (.returned (.func (.func 81) #[] #[.pointer (some ⟨w.heap.size + 1 + 1 + 1, 0, none⟩), .pointer (some ⟨w.heap.size + 1 + 1 + 1 + 1, 0, none⟩)]))
        (((((w.alloc (.cells #[.int .i64 9] 3)).alloc (.cells #[.slice (some ⟨b, off, none⟩) mine.length c1] 28)).alloc (.cells #[.slice po others.length co] 28)).alloc (.cells #[.slice (some ⟨b, off, none⟩) mine.length c1] 28)).alloc (.cells #[.slice po others.length co] 28))) := by
      have hbl : Below w.heap.size w (((((w.alloc (.cells #[.int .i64 9] 3)).alloc (.cells #[.slice (some ⟨b, off, none⟩) mine.length c1] 28)).alloc (.cells #[.slice po others.length co] 28)).alloc (.cells #[.slice (some ⟨b, off, none⟩) mine.length c1] 28)).alloc (.cells #[.slice po others.length co] 28)) :=
        (((((Below.refl _ w).alloc (Nat.le_refl _) _).alloc (by simp) _).alloc (by simp; omega) _).alloc (by simp; omega) _).alloc (by simp; omega) _
      have e1 := heap_new (((w.alloc (.cells #[.int .i64 9] 3)).alloc (.cells #[.slice (some ⟨b, off, none⟩) mine.length c1] 28)).alloc (.cells #[.slice po others.length co] 28)) (.cells #[.slice (some ⟨b, off, none⟩) mine.length c1] 28) (w.heap.size + 1 + 1 + 1) (by simp)
      have e2 := heap_new ((((w.alloc (.cells #[.int .i64 9] 3)).alloc (.cells #[.slice (some ⟨b, off, none⟩) mine.length c1] 28)).alloc (.cells #[.slice po others.length co] 28)).alloc (.cells #[.slice (some ⟨b, off, none⟩) mine.length c1] 28)) (.cells #[.slice po others.length co] 28) (w.heap.size + 1 + 1 + 1 + 1) (by simp)
      replace e1 := heap_old e1 (.cells #[.slice po others.length co] 28)
      refine ⟨_, _, rfl, hbl, fun args W => enters_of Try.func81 (by kernel_rfl) rfl args W, ?_⟩
      generalize ((((w.alloc (.cells #[.int .i64 9] 3)).alloc (.cells #[.slice (some ⟨b, off, none⟩) mine.length c1] 28)).alloc (.cells #[.slice po others.length co] 28)).alloc (.cells #[.slice (some ⟨b, off, none⟩) mine.length c1] 28)).alloc (.cells #[.slice po others.length co] 28) = W0 at *
      have hp := below_ptr (Br := Br) hbl hlB hptr
      have hs := hbl.size
      refine pairs_row Br Bl _ _ hKp mine others b off c1 po co W0 (Nat.lt_of_lt_of_le hlB hs) (Nat.lt_of_lt_of_le hrB hs) (fun g e => Nat.lt_of_lt_of_le (hp g e) hs) hl hlo hq hqo fun W hk => ?_
      have k := (KpL.of_below hbl hlB).trans hk
      have f1 := hk.keep e1 (by omega) (by omega) (fun e => by have := hp _ e; omega)
      have f2 := hk.keep e2 (by omega) (by omega) (fun e => by have := hp _ e; omega)
      have q := hu W k
      obtain ⟨hbW, hrW⟩ := is_row q.1 h0
      exact ⟨⟨cells_of f1 rfl, cells_of f2 rfl⟩, hrW, hbW, q.2⟩
    clear hw0 hu hq hqo hl hlo h0 hb hrow
    go_enter Try.func55, Try.ntmps55
    go_wp2_with (go_at_call 66; refine (pairs_call _ _ _ _ _ _ _).mono ?_; rintro e w1 ⟨rfl, rfl⟩)
    go_returns
    have h := HI.out
    simpa using h
  · have HI : Hid (GivesI Kp (keyL kind mine others) w (.returned (.func (.func 67) #[] #[.pointer (some ⟨w.heap.size, 0, none⟩), .pointer (some ⟨w.heap.size + 1, 0, none⟩), .pointer (some ⟨w.heap.size + 1 + 1, 0, none⟩)]))
        (((w.alloc (.cells #[.int .i64 kind] 3)).alloc (.cells #[.slice (some ⟨b, off, none⟩) mine.length c1] 28)).alloc (.cells #[.slice po others.length co] 28))) := by
      have hbl : Below w.heap.size w (((w.alloc (.cells #[.int .i64 kind] 3)).alloc (.cells #[.slice (some ⟨b, off, none⟩) mine.length c1] 28)).alloc (.cells #[.slice po others.length co] 28)) :=
        (((Below.refl _ w).alloc (Nat.le_refl _) _).alloc (by simp) _).alloc (by simp; omega) _
      have e1 := heap_old (heap_old (World.alloc_heap_new w (.cells #[.int .i64 kind] 3)) (.cells #[.slice (some ⟨b, off, none⟩) mine.length c1] 28)) (.cells #[.slice po others.length co] 28)
      have e2 := heap_old (heap_new (w.alloc (.cells #[.int .i64 kind] 3)) (.cells #[.slice (some ⟨b, off, none⟩) mine.length c1] 28) (w.heap.size + 1) (by simp)) (.cells #[.slice po others.length co] 28)
      have e3 := heap_new ((w.alloc (.cells #[.int .i64 kind] 3)).alloc (.cells #[.slice (some ⟨b, off, none⟩) mine.length c1] 28)) (.cells #[.slice po others.length co] 28) (w.heap.size + 1 + 1) (by simp)
      refine ⟨_, _, rfl, hbl, fun args W => enters_of Try.func67 (by kernel_rfl) rfl args W, ?_⟩
      generalize ((w.alloc (.cells #[.int .i64 kind] 3)).alloc (.cells #[.slice (some ⟨b, off, none⟩) mine.length c1] 28)).alloc (.cells #[.slice po others.length co] 28) = W0 at *
      have l3 := (Array.getElem?_eq_some_iff.1 e3).1
      have q := hu W0 (KpL.of_below hbl hlB)
      obtain ⟨hbW, hrW⟩ := is_row q.1 h0
      rw [show keyL kind mine others = [(figureO kind mine others, 1)] from if_neg h9]
      exact ofKey_iter Kp _ _ _ kind mine others b off c1 _ W0 (by omega) (by omega) l3 (cells_of e1 rfl) (cells_of e2 rfl) (cells_of e3 rfl) h0 hl hlo hbW hrW q.2 (fun c hc => ⟨(hq c hc).1.2, (hq c hc).2⟩) (fun c hc => ⟨(hqo c hc).1.2, (hqo c hc).2⟩)
    clear hw0 hu hq hqo hl hlo h0 hb hrow
    go_enter Try.func55, Try.ntmps55
    go_wp2
    go_returns
    have h := HI.out
    simpa using h
end Go.Proofs.Ytgmpgemgoplafaa
