/- pairs, keys, ofKey: what they hand back is an iterator -/
import Derived.Test.YthhceggcdaljdaaGreatK13
import Derived.Test.YthhceggcdaljdaaGreatK14
import Derived.Test.YthhceggcdaljdaaGreatK15
import Derived.Test.YthhceggcdaljdaaGreatK03
import Derived.RangeFuncBox
namespace Go.Proofs.YthhceggcdaljdaaGreat
open Go.RowKit Go.Shelf
set_option linter.unusedVariables false
set_option linter.unusedSimpArgs false

theorem heap_old {w : World} {k : Nat} {o : Obj} (h : w.heap[k]? = some o) (o' : Obj) : (w.alloc o').heap[k]? = some o := (Below.heap_alloc w o' k (Array.getElem?_eq_some_iff.1 h).1).trans h
theorem heap_new (w : World) (o : Obj) (k : Nat) (h : k = w.heap.size) : (w.alloc o).heap[k]? = some o := by rw [h]; exact World.alloc_heap_new w o
/-- an iterator's value is handed back -/
def GivesI (Kp : World → World → Prop) (ys : List (RV × Int)) (w : World) (e : Ending) (w' : World) : Prop :=
  ∃ gf lb, e = .returned (.func (.func gf) #[] lb) ∧ Below w.heap.size w w' ∧ (∀ args W, (callFunc gf args).run Tryz.prog W = .ok (.enter gf args) W) ∧ Iter Tryz.prog gf lb encO Kp ys w'
set_option maxRecDepth 100000 in
theorem pairs_call (p1 p2 : Option Addr) (n1 c1 n2 c2 : Nat) (w : World) : Calls Tryz.prog 224 #[.slice p1 n1 c1, .slice p2 n2 c2] w fun e w' =>
    e = .returned (.func (.func 249) #[] #[.pointer (some ⟨w.heap.size, 0, none⟩), .pointer (some ⟨w.heap.size + 1, 0, none⟩)]) ∧ w' = (w.alloc (.cells #[.slice p1 n1 c1] 37)).alloc (.cells #[.slice p2 n2 c2] 37) := by
  go_enter Tryz.func224, Tryz.ntmps224
  go_wp2
  go_returns
  exact ⟨rfl, rfl⟩
set_option maxRecDepth 100000 in
theorem keys_call (p1 p2 : Option Addr) (n1 c1 n2 c2 : Nat) (w : World) : Calls Tryz.prog 184 #[.slice p1 n1 c1, .slice p2 n2 c2] w fun e w' =>
    e = .returned (.func (.func 222) #[] #[.pointer (some ⟨w.heap.size, 0, none⟩), .pointer (some ⟨w.heap.size + 1, 0, none⟩)]) ∧ w' = (w.alloc (.cells #[.slice p1 n1 c1] 37)).alloc (.cells #[.slice p2 n2 c2] 37) := by
  go_enter Tryz.func184, Tryz.ntmps184
  go_wp2
  go_returns
  exact ⟨rfl, rfl⟩
def keyL (kind : Int) (m o : List IV) : List (RV × Int) := if kind = 9 then pairsL m o else [(figureO kind m o, 1)]
theorem below_ptr {Br Bl : Nat} {w w' : World} (h : Below w.heap.size w w') (hl : Bl < w.heap.size) (hp : ∀ g, rowPtr w Bl = some g → g < w.heap.size) : ∀ g, rowPtr w' Bl = some g → g < w.heap.size := fun g e => by
  rw [rowPtr_eq (h.block Bl hl)] at e
  exact hp g e
set_option maxRecDepth 100000 in
set_option maxHeartbeats 4000000 in
theorem ofKey_any {Kp : World → World → Prop} (Br Bl : Nat) (hKp : ∀ A B, Kp A B → KpL Br Bl A B) (kind : Int) (mine others : List IV) (u1 u2 : Value) (w : World) (hlB : Bl < w.heap.size) (hrB : Br < w.heap.size) (hptr : ∀ g, rowPtr w Bl = some g → g < w.heap.size)
    (h0 : 0 < mine.length) (hl : mine.length ≤ 900000) (hlo : others.length ≤ 900000) (hq : ∀ c ∈ mine, (inR c.t.k ∧ inR c.t.v) ∧ 0 ≤ c.n ∧ c.n ≤ 2147483648) (hqo : ∀ c ∈ others, (inR c.t.k ∧ inR c.t.v) ∧ 0 ≤ c.n ∧ c.n ≤ 2147483648)
    (hu : ∀ W', KpL Br Bl w W' → RI.Is W' u1 mine ∧ RI.Is W' u2 others) : Calls Tryz.prog 185 #[.int .i64 kind, u1, u2] w (GivesI Kp (keyL kind mine others) w) := by
  have hw0 := hu w (KpL.refl _ _ _)
  obtain ⟨p1, c1, rfl⟩ := hw0.1.slice
  obtain ⟨po, co, rfl⟩ := hw0.2.slice
  obtain ⟨b, off, rfl, hb, hrow⟩ := is_row' hw0.1 h0
  by_cases h9 : kind = 9
  · subst h9
    have HI : Hid (GivesI Kp (keyL 9 mine others) w (.returned (.func (.func 249) #[] #[.pointer (some ⟨w.heap.size + 1 + 1 + 1, 0, none⟩), .pointer (some ⟨w.heap.size + 1 + 1 + 1 + 1, 0, none⟩)]))
        (((((w.alloc (.cells #[.int .i64 9] 3)).alloc (.cells #[.slice (some ⟨b, off, none⟩) mine.length c1] 37)).alloc (.cells #[.slice po others.length co] 37)).alloc (.cells #[.slice (some ⟨b, off, none⟩) mine.length c1] 37)).alloc (.cells #[.slice po others.length co] 37))) := by
      have hbl : Below w.heap.size w (((((w.alloc (.cells #[.int .i64 9] 3)).alloc (.cells #[.slice (some ⟨b, off, none⟩) mine.length c1] 37)).alloc (.cells #[.slice po others.length co] 37)).alloc (.cells #[.slice (some ⟨b, off, none⟩) mine.length c1] 37)).alloc (.cells #[.slice po others.length co] 37)) :=
        (((((Below.refl _ w).alloc (Nat.le_refl _) _).alloc (by simp) _).alloc (by simp; omega) _).alloc (by simp; omega) _).alloc (by simp; omega) _
      have e1 := heap_new (((w.alloc (.cells #[.int .i64 9] 3)).alloc (.cells #[.slice (some ⟨b, off, none⟩) mine.length c1] 37)).alloc (.cells #[.slice po others.length co] 37)) (.cells #[.slice (some ⟨b, off, none⟩) mine.length c1] 37) (w.heap.size + 1 + 1 + 1) (by simp)
      have e2 := heap_new ((((w.alloc (.cells #[.int .i64 9] 3)).alloc (.cells #[.slice (some ⟨b, off, none⟩) mine.length c1] 37)).alloc (.cells #[.slice po others.length co] 37)).alloc (.cells #[.slice (some ⟨b, off, none⟩) mine.length c1] 37)) (.cells #[.slice po others.length co] 37) (w.heap.size + 1 + 1 + 1 + 1) (by simp)
      replace e1 := heap_old e1 (.cells #[.slice po others.length co] 37)
      refine ⟨_, _, rfl, hbl, fun args W => enters_of Tryz.func249 (by kernel_rfl) rfl args W, ?_⟩
      generalize ((((w.alloc (.cells #[.int .i64 9] 3)).alloc (.cells #[.slice (some ⟨b, off, none⟩) mine.length c1] 37)).alloc (.cells #[.slice po others.length co] 37)).alloc (.cells #[.slice (some ⟨b, off, none⟩) mine.length c1] 37)).alloc (.cells #[.slice po others.length co] 37) = W0 at *
      have hp := below_ptr (Br := Br) hbl hlB hptr
      have hs := hbl.size
      refine pairs_row Br Bl _ _ hKp mine others b off c1 po co W0 (Nat.lt_of_lt_of_le hlB hs) (Nat.lt_of_lt_of_le hrB hs) (fun g e => Nat.lt_of_lt_of_le (hp g e) hs) hl hlo hq hqo fun W hk => ?_
      have k := (KpL.of_below hbl hlB).trans hk
      have f1 := hk.keep e1 (by omega) (by omega) (fun e => by have := hp _ e; omega)
      have f2 := hk.keep e2 (by omega) (by omega) (fun e => by have := hp _ e; omega)
      have q := hu W k
      obtain ⟨hbW, hrW⟩ := is_row q.1 h0
      exact ⟨⟨cells_of f1 rfl, cells_of f2 rfl⟩, hrW, hbW, q.2⟩
    clear hw0 hu hq hqo hl hlo h0 hb hrow
    go_enter Tryz.func185, Tryz.ntmps185
    go_wp2_with (go_at_call 224; refine (pairs_call _ _ _ _ _ _ _).mono ?_; rintro e w1 ⟨rfl, rfl⟩)
    go_returns
    have h := HI.out
    simpa using h
  · have HI : Hid (GivesI Kp (keyL kind mine others) w (.returned (.func (.func 225) #[] #[.pointer (some ⟨w.heap.size, 0, none⟩), .pointer (some ⟨w.heap.size + 1, 0, none⟩), .pointer (some ⟨w.heap.size + 1 + 1, 0, none⟩)]))
        (((w.alloc (.cells #[.int .i64 kind] 3)).alloc (.cells #[.slice (some ⟨b, off, none⟩) mine.length c1] 37)).alloc (.cells #[.slice po others.length co] 37))) := by
      have hbl : Below w.heap.size w (((w.alloc (.cells #[.int .i64 kind] 3)).alloc (.cells #[.slice (some ⟨b, off, none⟩) mine.length c1] 37)).alloc (.cells #[.slice po others.length co] 37)) :=
        (((Below.refl _ w).alloc (Nat.le_refl _) _).alloc (by simp) _).alloc (by simp; omega) _
      have e1 := heap_old (heap_old (World.alloc_heap_new w (.cells #[.int .i64 kind] 3)) (.cells #[.slice (some ⟨b, off, none⟩) mine.length c1] 37)) (.cells #[.slice po others.length co] 37)
      have e2 := heap_old (heap_new (w.alloc (.cells #[.int .i64 kind] 3)) (.cells #[.slice (some ⟨b, off, none⟩) mine.length c1] 37) (w.heap.size + 1) (by simp)) (.cells #[.slice po others.length co] 37)
      have e3 := heap_new ((w.alloc (.cells #[.int .i64 kind] 3)).alloc (.cells #[.slice (some ⟨b, off, none⟩) mine.length c1] 37)) (.cells #[.slice po others.length co] 37) (w.heap.size + 1 + 1) (by simp)
      refine ⟨_, _, rfl, hbl, fun args W => enters_of Tryz.func225 (by kernel_rfl) rfl args W, ?_⟩
      generalize ((w.alloc (.cells #[.int .i64 kind] 3)).alloc (.cells #[.slice (some ⟨b, off, none⟩) mine.length c1] 37)).alloc (.cells #[.slice po others.length co] 37) = W0 at *
      have l3 := (Array.getElem?_eq_some_iff.1 e3).1
      have q := hu W0 (KpL.of_below hbl hlB)
      obtain ⟨hbW, hrW⟩ := is_row q.1 h0
      rw [show keyL kind mine others = [(figureO kind mine others, 1)] from if_neg h9]
      exact ofKey_iter Kp _ _ _ kind mine others b off c1 _ W0 (by omega) (by omega) l3 (cells_of e1 rfl) (cells_of e2 rfl) (cells_of e3 rfl) h0 hl hlo hbW hrW q.2 (fun c hc => ⟨(hq c hc).1.2, (hq c hc).2⟩) (fun c hc => ⟨(hqo c hc).1.2, (hqo c hc).2⟩)
    clear hw0 hu hq hqo hl hlo h0 hb hrow
    go_enter Tryz.func185, Tryz.ntmps185
    go_wp2
    go_returns
    have h := HI.out
    simpa using h
end Go.Proofs.YthhceggcdaljdaaGreat
/- what comes of an operator that takes its records key by key, as an iterator: ofKeys' closure -/
namespace Go.Proofs.YthhceggcdaljdaaGreat
open Go.RowKit Go.Shelf
attribute [local go_sem] Oper.semAt_some
set_option linter.unusedVariables false
set_option linter.unusedSimpArgs false

def byKeysL (kind : Int) (a b : List IV) : List (RV × Int) := (keysO a.length a b).flatMap fun m => keyL kind m.1 m.2
theorem takeO_len (b : List IV) (k : Int) : (takeO b k).length ≤ b.length := Nat.le_trans (List.takeWhile_sublist _).length_le (List.dropWhile_sublist _).length_le
theorem restO_len (b : List IV) (k : Int) : (restO b k).length ≤ b.length := Nat.le_trans (List.dropWhile_sublist _).length_le (List.dropWhile_sublist _).length_le
theorem keysO_len : ∀ (f : Nat) (a b : List IV), ∀ m ∈ keysO f a b, 0 < m.1.length ∧ m.1.length ≤ a.length ∧ m.2.length ≤ b.length
  | 0, _, _, m, h => by cases h
  | _ + 1, [], _, m, h => by cases h
  | f + 1, c :: a, b, m, h => by
    rw [keysO] at h
    rcases List.mem_cons.1 h with rfl | h
    · refine ⟨?_, takeO_len _ _, takeO_len _ _⟩
      unfold takeO dropO
      rw [List.dropWhile_cons, if_neg (by simp), List.takeWhile_cons, if_pos (by simp)]
      simp
    · have ih := keysO_len f _ _ m h
      exact ⟨ih.1, Nat.le_trans ih.2.1 (restO_len _ _), Nat.le_trans ih.2.2 (restO_len _ _)⟩
theorem byKeys_prefix {kind : Int} {ks pre : List (List IV × List IV)} {x : List IV × List IV} (h : (pre ++ [x]) <+: ks) {q : List (RV × Int)} (hq : q <+: keyL kind x.1 x.2) :
    (pre.flatMap (fun m => keyL kind m.1 m.2) ++ q) <+: ks.flatMap fun m => keyL kind m.1 m.2 := by
  obtain ⟨r, rfl⟩ := h
  obtain ⟨s, hs⟩ := hq
  refine ⟨s ++ r.flatMap (fun m => keyL kind m.1 m.2), ?_⟩
  simp [← hs]
theorem flat_prefix {kind : Int} {ks pre : List (List IV × List IV)} (h : pre <+: ks) : pre.flatMap (fun m => keyL kind m.1 m.2) <+: ks.flatMap fun m => keyL kind m.1 m.2 := by
  obtain ⟨r, rfl⟩ := h
  exact ⟨r.flatMap (fun m => keyL kind m.1 m.2), by simp⟩
/-- between the rounds: what was is kept, box By holds yield -/
structure StK (Br Bl By : Nat) (o : Obj) (w W : World) : Prop where
  k : KpL Br Bl w W
  bx : W.heap[By]? = some o
  hp : ∀ g, rowPtr W Bl = some g → g < W.heap.size
  hr : rowPtr W Bl ≠ some By
theorem StK.keep {Br Bl By : Nat} {c : Array Value} {t : TypeId} {w W V : World} (h : StK Br Bl By (.cells c t (0, 0)) w W) (k : KpL Br Bl W V) (h1 : By ≠ Br) (h2 : By ≠ Bl) : StK Br Bl By (.cells c t (0, 0)) w V :=
  ⟨h.k.trans k, k.keep h.bx h1 h2 h.hr, k.lt h.hp, k.apart (Array.getElem?_eq_some_iff.1 h.bx).1 h.hr⟩
theorem StK.grown {Br Bl By B : Nat} {c : Array Value} {t : TypeId} {w W V : World} (h : StK Br Bl By (.cells c t (0, 0)) w W) {row : Option Nat} (hg : W.grownBy V row) (hr : ∀ r, row = some r → B ≤ r ∧ ∃ o : Obj, W.heap[r]? = some o ∧ o.isCells = false) (hlB : Bl < w.heap.size) (hB : Bl < B) (hy : By < B) : StK Br Bl By (.cells c t (0, 0)) w V := by
  have k := KpL.of_grown (Br := Br) (Bl := Bl) hg (fun r e => ⟨by have := (hr r e).1; omega, (hr r e).2⟩) (Nat.lt_of_lt_of_le hlB h.k.size)
  refine ⟨h.k.trans k, (hg.block By (Array.getElem?_eq_some_iff.1 h.bx).1 fun e => by have := (hr By e.symm).1; omega).trans h.bx, k.lt h.hp, k.apart (Array.getElem?_eq_some_iff.1 h.bx).1 h.hr⟩
theorem KpL.grown {Br Bl B : Nat} {U W V : World} (h : KpL Br Bl U W) {row : Option Nat} (hg : W.grownBy V row) (hr : ∀ r, row = some r → B ≤ r ∧ ∃ o : Obj, W.heap[r]? = some o ∧ o.isCells = false) (hlB : Bl < U.heap.size) (hB : Bl < B) : KpL Br Bl U V :=
  h.trans (KpL.of_grown hg (fun r e => ⟨by have := (hr r e).1; omega, (hr r e).2⟩) (Nat.lt_of_lt_of_le hlB h.size))

set_option maxRecDepth 100000 in
set_option maxHeartbeats 8000000 in
theorem ofKeys_iter {Kp : World → World → Prop} (Br Bl Ba Bb Bk : Nat) (hKp : ∀ A B, Kp A B → KpL Br Bl A B) (kind : Int) (a b : List IV) (va vb : Value) (w : World) (hlB : Bl < w.heap.size) (hrB : Br < w.heap.size) (hptr : ∀ g, rowPtr w Bl = some g → g < w.heap.size)
    (hl : a.length ≤ 900000) (hlb : b.length ≤ 900000) (hca : capOk va) (hcb : capOk vb) (hq : ∀ c ∈ a, (inR c.t.k ∧ inR c.t.v) ∧ 0 ≤ c.n ∧ c.n ≤ 2147483648) (hqo : ∀ c ∈ b, (inR c.t.k ∧ inR c.t.v) ∧ 0 ≤ c.n ∧ c.n ≤ 2147483648)
    (hw : ∀ W, KpL Br Bl w W → (W.cell? ⟨Ba, 0, none⟩ = some va ∧ W.cell? ⟨Bb, 0, none⟩ = some vb ∧ W.cell? ⟨Bk, 0, none⟩ = some (.int .i64 kind)) ∧ RI.Is W va a ∧ RI.Is W vb b) :
    Iter Tryz.prog 183 #[.pointer (some ⟨Ba, 0, none⟩), .pointer (some ⟨Bb, 0, none⟩), .pointer (some ⟨Bk, 0, none⟩)] encO Kp (byKeysL kind a b) w := fun l J Jx W hW hJ hJx hY hj => by
  have HK0 := Lib.hid (KpL.of_below (Br := Br) hW hlB)
  have hc0 := (hw _ HK0.out).1
  have HW := Lib.hid hw
  obtain ⟨pa, ca, rfl⟩ := (HW.out _ HK0.out).2.1.slice
  obtain ⟨pb, cb, rfl⟩ := (HW.out _ HK0.out).2.2.slice
  have HP0 : Hid (∀ g, rowPtr W Bl = some g → g < W.heap.size) := HK0.out.lt hptr
  have HC : Hid ((a.length ≤ 900000 ∧ b.length ≤ 900000) ∧ capOk (.slice pa a.length ca) ∧ capOk (.slice pb b.length cb)) := ⟨⟨hl, hlb⟩, hca, hcb⟩
  obtain ⟨hc1, hc2, hc3⟩ := hc0
  have lA := cell_in hc1
  have lB := cell_in hc2
  have lK := cell_in hc3
  have hWs := hW.size
  clear hw hl hlb hca hcb
  refine (callsIn_wide (n := 3)).1 ?_
  refine callsIn_of_wp_marks Tryz.func183 rfl trivial ?_ rfl
  simp only [Tryz.ntmps183, List.size_toArray, List.length_cons, List.length_nil, Nat.reduceAdd, Nat.reduceSub, Array.replicate_succ, Array.replicate_zero, List.push_toArray, List.append_toArray, List.nil_append, List.cons_append]
  gi_wp2_with (refine ⟨trivial, ?_⟩; gi_at_call 184; refine (callsIn_wide.2 (keys_call _ _ _ _ _ _ _)).mono ?_; rintro e W1 ⟨rfl, rfl⟩)
  have hbl : Below W.heap.size W (((W.alloc (.cells #[.func (.yield l) #[] #[]] 194)).alloc (.cells #[.slice pa a.length ca] 37)).alloc (.cells #[.slice pb b.length cb] 37)) :=
    (((Below.refl _ W).alloc (Nat.le_refl _) _).alloc (by simp) _).alloc (by simp; omega) _
  have e0 := heap_old (heap_old (World.alloc_heap_new W (.cells #[.func (.yield l) #[] #[]] 194)) (.cells #[.slice pa a.length ca] 37)) (.cells #[.slice pb b.length cb] 37)
  have e1 := heap_old (heap_new (W.alloc (.cells #[.func (.yield l) #[] #[]] 194)) (.cells #[.slice pa a.length ca] 37) (W.heap.size + 1) (by simp)) (.cells #[.slice pb b.length cb] 37)
  have e2 := heap_new ((W.alloc (.cells #[.func (.yield l) #[] #[]] 194)).alloc (.cells #[.slice pa a.length ca] 37)) (.cells #[.slice pb b.length cb] 37) (W.heap.size + 1 + 1) (by simp)
  have l3 := (Array.getElem?_eq_some_iff.1 e2).1
  generalize ((W.alloc (.cells #[.func (.yield l) #[] #[]] 194)).alloc (.cells #[.slice pa a.length ca] 37)).alloc (.cells #[.slice pb b.length cb] 37) = W3 at *
  have hp3 := below_ptr (Br := Br) hbl (Nat.lt_of_lt_of_le hlB hWs) HP0.out
  have hk3 := HK0.out.trans (KpL.of_below (Br := Br) hbl (Nat.lt_of_lt_of_le hlB hWs))
  have HST : Hid (StK Br Bl W.heap.size (.cells #[.func (.yield l) #[] #[]] 194 (0, 0)) w W3) := ⟨hk3, e0, fun g e => Nat.lt_of_lt_of_le (hp3 g e) hbl.size, fun e => Nat.lt_irrefl _ (hp3 _ e)⟩
  have HJ3 := Lib.hid (hJ _ _ _ none hj (grown_of_below hbl) (fun r e => by cases e))
  have HE1 : Hid (∀ V, KpL Br Bl W3 V → V.cell? ⟨W.heap.size + 1, 0, none⟩ = some (.slice pa a.length ca) ∧ V.cell? ⟨W.heap.size + 1 + 1, 0, none⟩ = some (.slice pb b.length cb)) := fun V k =>
    ⟨cells_of (k.keep e1 (by omega) (by omega) (fun e => by have := hp3 _ e; omega)) rfl, cells_of (k.keep e2 (by omega) (by omega) (fun e => by have := hp3 _ e; omega)) rfl⟩
  have hbs := hbl.size
  clear hj hc1 hc2 hc3 e0 e1 e2 hW HK0 HP0
  generalize W.heap.size = By at *
  clear hbl W
  refine iter_outer (by decide) (gf := 222) (lb := #[.pointer (some ⟨By + 1, 0, none⟩), .pointer (some ⟨By + 1 + 1, 0, none⟩)]) rfl (fun args W => enters_of Tryz.func222 (by kernel_rfl) rfl args W)
    (keys_iter (Kp := KpL Br Bl) Br Bl (By + 1) (By + 1 + 1) (fun _ _ h => h) a b _ _ W3 (by omega) (by omega) HST.out.hp HC.out.1.1 HC.out.1.2 HC.out.2.1 HC.out.2.2 (fun V k => ⟨HE1.out V k, (HW.out V (hk3.trans k)).2⟩))
    (fun x => okK_own (by omega) x) (Below.refl _ _) (fun _ => rfl) (fun h k => KpL.trans h k) (fun V o o' h1 h2 => KpL.putObj V _ o o' h1 h2 (by omega))
    (fun (pre : List (List IV × List IV)) V => J (pre.flatMap fun (m : List IV × List IV) => keyL kind m.1 m.2) V ∧ StK Br Bl By (.cells #[.func (.yield l) #[] #[]] 194 (0, 0)) w V)
    (fun c (pre : List (List IV × List IV)) V => c = .ret ∧ ∃ q, q <+: byKeysL kind a b ∧ Jx q V)
    (fun s A B row hs hg hr => ⟨hJ _ A B row hs.1 hg (fun r e => ⟨by have := (hr r e).1; omega, (hr r e).2⟩), hs.2.grown hg hr hlB (by omega) (by omega)⟩)
    (fun c s A B row hs hg hr => by obtain ⟨h1, q, h2, h3⟩ := hs; exact ⟨h1, q, h2, hJx _ _ _ _ h3 hg (fun r e => ⟨by have := (hr r e).1; omega, (hr r e).2⟩)⟩)
    ⟨HJ3.out, HST.out⟩
    (fun x a' _ => a' = { tmps := #[.func (.yield l) #[] #[], .pointer (some ⟨Ba, 0, none⟩), .pointer (some ⟨Bb, 0, none⟩), .pointer (some ⟨Bk, 0, none⟩), .pointer (some ⟨By, 0, none⟩), x.2.1, x.2.2, undef, undef, .slice pa a.length ca, .slice pb b.length cb, .func (.func 222) #[] #[.pointer (some ⟨By + 1, 0, none⟩), .pointer (some ⟨By + 1 + 1, 0, none⟩)], x.2.1, x.2.2, undef, undef, undef, undef, undef, undef, undef, undef, undef, undef, undef], defers := [] })
    (fun _ _ _ _ _ _ hs _ _ => hs) ?assign ?body ?done ?stop
  case assign =>
    rintro l1 pre ⟨⟨m, o⟩, u1, u2⟩ V K hi hok hK
    dsimp only [encK]
    gi_wp2
    exact hK _ _ (KeepsFrom.refl _ _) (KpL.refl _ _ _) hi hok rfl
  case body =>
    rintro l1 pre ⟨⟨m, o⟩, u1, u2⟩ a' V hl1 hpre ⟨hBlV, ⟨hcu1, hcu2⟩, hok⟩ ⟨r1, hr1⟩ ⟨hJV, hSV⟩ rfl
    dsimp only at hpre hok hcu1 hcu2 ⊢
    have hmem : (m, o) ∈ keysO a.length a b := hpre.subset (by simp)
    have hln := keysO_len _ _ _ _ hmem
    have hsub := keysO_sub _ _ _ _ hmem
    have hck : V.cell? ⟨Bk, 0, none⟩ = some (.int .i64 kind) := (HW.out V hSV.k).1.2.2
    have hlk : Bk < V.heap.size := cell_in hck
    obtain ⟨p1, c1, rfl⟩ := (hok V (KpL.refl _ _ _)).1.slice
    obtain ⟨p2, c2, rfl⟩ := (hok V (KpL.refl _ _ _)).2.slice
    have HOF : Hid (Calls Tryz.prog 185 #[.int .i64 kind, .slice p1 m.length c1, .slice p2 o.length c2] V (GivesI (KpL Br Bl) (keyL kind m o) V)) :=
      ofKey_any (Kp := KpL Br Bl) Br Bl (fun _ _ h => h) kind m o _ _ V hBlV (Nat.lt_of_lt_of_le hrB hSV.k.size) hSV.hp hln.1 (Nat.le_trans hln.2.1 HC.out.1.1) (Nat.le_trans hln.2.2 HC.out.1.2) (fun c hc => hq c (hsub.1 c hc)) (fun c hc => hqo c (hsub.2 c hc)) hok
    have HPR : Hid (∀ q, q <+: keyL kind m o → (pre.flatMap (fun m => keyL kind m.1 m.2) ++ q) <+: byKeysL kind a b) := fun q h => byKeys_prefix hpre h
    have HFL := Lib.hid (show pre.flatMap (fun m => keyL kind m.1 m.2) ++ keyL kind m o = (pre ++ [(m, o)]).flatMap (fun m => keyL kind m.1 m.2) by simp)
    generalize keyL kind m o = ks at *
    generalize hfl : pre.flatMap (fun (m : List IV × List IV) => keyL kind m.1 m.2) = fl at *
    have HSV := Lib.hid hSV
    clear hfl hok hcu1 hcu2 hsub hln hmem
    gi_wp2_with (refine ⟨trivial, ?_⟩; gi_at_call 185; refine (CallsIn.inRound l1 (callsIn_wide.2 HOF.out)).mono ?_; rintro e V1 ⟨gf, lb, rfl, hb1, hen, hit⟩)
    have hlV1 : Bl < V1.heap.size := Nat.lt_of_lt_of_le hBlV hb1.size
    have hsz3 : W3.heap.size ≤ V1.heap.size := Nat.le_trans (Nat.le_trans hl1 (Nat.le_of_lt (Array.getElem?_eq_some_iff.1 hr1).1)) hb1.size
    have hSV1 := HSV.out.keep (KpL.of_below hb1 hBlV) (by omega) (by omega)
    have hJV1 := hJ _ _ _ none hJV (grown_of_below hb1) (fun r e => by cases e)
    have hr1' : V1.heap[l1]? = some (.loop r1) := (hb1.block l1 (Array.getElem?_eq_some_iff.1 hr1).1).trans hr1
    have hKV1 : KpL Br Bl V V1 := KpL.of_below hb1 hBlV
    have hFV1 : KeepsFrom W3.heap.size V V1 := KeepsFrom.of_grownBy (grown_of_below hb1) (fun j e => by cases e)
    clear HOF hb1 hJV hr1 hSV hck
    refine iter_inner (l₀ := l1) ⟨r1, hr1'⟩ (by decide) (gf := gf) (lb := lb) rfl hen hit.v (fun _ _ _ _ _ _ _ _ => trivial) (Below.refl _ _) (fun _ => rfl) (fun h k => KpL.trans h k) (fun U o o' h1 h2 => KpL.putObj U _ o o' h1 h2 (by omega))
      (fun (pre' : List (RV × Int)) U => (J (fl ++ pre') U ∧ StK Br Bl By (.cells #[.func (.yield l) #[] #[]] 194 (0, 0)) w U) ∧ KpL Br Bl V1 U ∧ KeepsFrom W3.heap.size V U)
      (fun c (pre' : List (RV × Int)) U => (c = .ret ∧ ∃ q, q <+: byKeysL kind a b ∧ Jx q U) ∧ KeepsFrom W3.heap.size V U)
      (fun s A B row hs hg hr => ⟨⟨hJ _ A B row hs.1.1 hg (fun r e => ⟨by have := (hr r e).1; omega, (hr r e).2⟩), hs.1.2.grown hg hr hlB (by omega) (by omega)⟩, hs.2.1.grown hg hr hlV1 (by omega), ownFrom_keepsFrom (β := Unit) (w₀ := V) (by exact hKV1.size) () A B row hs.2.2 hg hr⟩)
      (fun c s A B row hs hg hr => by obtain ⟨⟨h1, q, h2, h3⟩, h4⟩ := hs; exact ⟨⟨h1, q, h2, hJx _ A B row h3 hg (fun r e => ⟨by have := (hr r e).1; omega, (hr r e).2⟩)⟩, ownFrom_keepsFrom (β := Unit) (w₀ := V) (by exact hKV1.size) () A B row h4 hg hr⟩)
      ⟨⟨by rw [List.append_nil]; exact hJV1, hSV1⟩, KpL.refl _ _ _, hFV1⟩
      (fun x a' U => ∃ Bx, V1.heap.size ≤ Bx ∧ U.heap[Bx]? = some (.cells #[.int .i64 x.1.k, .int .i64 x.1.v] 27 (0, 0)) ∧ a' = { tmps := #[.func (.yield l) #[] #[], .pointer (some ⟨Ba, 0, none⟩), .pointer (some ⟨Bb, 0, none⟩), .pointer (some ⟨Bk, 0, none⟩), .pointer (some ⟨By, 0, none⟩), .slice p1 m.length c1, .slice p2 o.length c2, .pointer (some ⟨Bx, 0, none⟩), .int .i64 x.2, .slice pa a.length ca, .slice pb b.length cb, .func (.func 222) #[] #[.pointer (some ⟨By + 1, 0, none⟩), .pointer (some ⟨By + 1 + 1, 0, none⟩)], .slice p1 m.length c1, .slice p2 o.length c2, .int .i64 kind, .slice p1 m.length c1, .slice p2 o.length c2, .func (.func gf) #[] lb, x.1.val, .int .i64 x.2, undef, undef, undef, undef, undef], defers := [] })
      (fun x a' _ A B row hs hg hr => by
        obtain ⟨Bx, h1, h2, h3⟩ := hs
        exact ⟨Bx, h1, (hg.block Bx (Array.getElem?_eq_some_iff.1 h2).1 fun e => by obtain ⟨_, o, ho, hc⟩ := hr Bx e.symm; rw [h2] at ho; cases ho; cases hc).trans h2, h3⟩)
      ?assign2 ?body2 ?done2 ?stop2
    case assign2 =>
      rintro l2 pre' ⟨⟨rk, rv⟩, rn⟩ U K ⟨⟨hJU, hSU⟩, hkU, hfU⟩ _ hK
      dsimp only [encO, RV.val] at hK ⊢
      gi_wp2
      have hab : Below U.heap.size U (U.alloc (.cells #[.int .i64 rk, .int .i64 rv] 27)) := (Below.refl _ U).alloc (Nat.le_refl _) _
      have hkA : KpL Br Bl U (U.alloc (.cells #[.int .i64 rk, .int .i64 rv] 27)) := KpL.of_below hab (Nat.lt_of_lt_of_le hlV1 hkU.size)
      have hfA : KeepsFrom W3.heap.size U (U.alloc (.cells #[.int .i64 rk, .int .i64 rv] 27)) := KeepsFrom.of_grownBy (grown_of_below hab) (fun j e => by cases e)
      exact hK _ _ (KeepsFrom.of_grownBy (grown_of_below hab) (fun j e => by cases e)) hkA ⟨⟨hJ _ _ _ none hJU (grown_of_below hab) (fun r e => by cases e), hSU.keep hkA (by omega) (by omega)⟩, hkU.trans hkA, hfU.trans hfA⟩ trivial ⟨U.heap.size, hkU.size, World.alloc_heap_new U _, rfl⟩
    case body2 =>
      rintro l2 pre' ⟨⟨rk, rv⟩, rn⟩ a'' U hl2 hpre2 _ ⟨r2, hr2⟩ ⟨⟨hJU, hSU⟩, hkU, hfU⟩ ⟨Bx, hBx, hx, rfl⟩
      have hPX : ((fl ++ pre') ++ [(⟨rk, rv⟩, rn)]) <+: byKeysL kind a b := by rw [List.append_assoc]; exact HPR.out _ hpre2
      obtain ⟨fn, tmps, assign, body, hy, hR⟩ := (yield_any (hY _ (⟨rk, rv⟩, rn) U hPX hJU)).2 2 l2
      dsimp only [encO, RV.val] at hy ⊢
      have cy : U.cell? ⟨By, 0, none⟩ = some (.func (.yield l) #[] #[]) := cells_of hSU.bx rfl
      have cx0 : U.cell? ⟨Bx, 0, none⟩ = some (.int .i64 rk) := cells_of hx rfl
      have cx1 : U.cell? ⟨Bx, 1, none⟩ = some (.int .i64 rv) := cells_of hx rfl
      have ly := cell_in cy
      have lx := cell_in cx0
      have HSU := Lib.hid hSU
      clear hSU hx hr2 hJU
      gi_wp2
      refine hR.mono ?_
      rintro e U5 (⟨rfl, hJ5, hk5, hf5⟩ | ⟨rfl, hJx5, hf5⟩)
      · have k5 := hKp _ _ hk5
        have f5 := kf_wide hf5 hbs
        gi_wp2
        exact ⟨(kf_wide hf5 (Nat.le_trans hbs hsz3)), k5, ⟨by rw [← List.append_assoc]; exact hJ5, HSU.out.keep k5 (by omega) (by omega)⟩, hkU.trans k5, hfU.trans f5⟩
      · have f5 := kf_wide hf5 hbs
        gi_wp2
        exact ⟨(kf_wide hf5 (Nat.le_trans hbs hsz3)), ⟨rfl, _, hPX, hJx5⟩, hfU.trans f5⟩
    case done2 =>
      rintro U ⟨⟨hJU, hSU⟩, hkU, hfU⟩
      rw [HFL.out] at hJU
      gi_wp2
      exact ⟨hfU, hKV1.trans hkU, hJU, hSU⟩
    case stop2 =>
      rintro c pre' U hp2 ⟨⟨rfl, q, hq1, hq2⟩, hfU⟩
      gi_wp2
      exact ⟨hfU, rfl, q, hq1, hq2⟩
  case done =>
    rintro D V hD hK ⟨hJV, hSV⟩
    gi_wp2
    refine ⟨by simp, .inl ⟨_, _, rfl, run_takeDeferred hK, ?_⟩⟩
    exact ⟨_, results_none rfl _ _ _, ⟨_, rfl⟩, .inl (hJ.putObj _ hJV (by omega) hK rfl)⟩
  case stop =>
    rintro D c pre V hD hK hpre ⟨rfl, q, hq1, hq2⟩
    gi_wp2
    refine ⟨by simp, .inl ⟨_, _, rfl, run_takeDeferred hK, ?_⟩⟩
    exact ⟨_, results_none rfl _ _ _, ⟨_, rfl⟩, .inr ⟨q, hq1, hJx.putObj _ hq2 (by omega) hK rfl⟩⟩

end Go.Proofs.YthhceggcdaljdaaGreat
