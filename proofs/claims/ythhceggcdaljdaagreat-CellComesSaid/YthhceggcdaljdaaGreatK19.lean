/- comes: what comes of an operator is handed back as an iterator -/
import Derived.Test.YthhceggcdaljdaaGreatK17
import Derived.Test.YthhceggcdaljdaaGreatK18
import Derived.Deep.RegionLaw
namespace Go.Proofs.YthhceggcdaljdaaGreat
open Go.RowKit Go.Shelf
set_option linter.unusedVariables false
set_option linter.unusedSimpArgs false

/-- behind w, in W, v holds these, whatever rounds follow -/
structure HasT (Br Bl : Nat) (w W : World) (v : Value) (t : List IV) : Prop where
  b : Below w.heap.size w W
  c : capOk v
  h : ∀ W', KpL Br Bl W W' → RI.Is W' v t
theorem own_cap {B : Nat} {w : World} {v : Value} {t : List IV} (h : RI.Own B w v t) : capOk v := fun p n c e => by
  obtain ⟨h1, ⟨rfl, h0⟩ | ⟨g, cap, cur, rfl, hB, hg, h2, h3, _⟩⟩ := h
  · cases e; exact Nat.le_refl _
  · cases e; exact h2
theorem hasT_made {Br Bl : Nat} {w V W : World} {e : Ending} {t : List IV} (h : RI.Made t V e W) (hb : Below w.heap.size w V) (hlB : Bl < w.heap.size) (hrB : Br < w.heap.size) (hptr : ∀ g, rowPtr w Bl = some g → g < w.heap.size) :
    ∃ v, e = .returned v ∧ HasT Br Bl w W v t ∧ Below V.heap.size V W := by
  obtain ⟨v, rfl, hO, hB⟩ := h
  have hbW := bcall hb hB hb.size
  refine ⟨v, rfl, ⟨hbW, own_cap hO, fun W' hk => ?_⟩, hB⟩
  refine RowKind.Own.is (R := RI) (B := V.heap.size) (KpL.ownK hk hO fun g e => ?_)
  have h1 := (hO.lt g e).1
  have h2 := hb.size
  exact ⟨by omega, by omega, fun e2 => by have := below_ptr (Br := Br) hbW hlB hptr g e2; omega⟩
theorem HasT.below {Br Bl : Nat} {w W V : World} {v : Value} {t : List IV} (h : HasT Br Bl w W v t) (hb : Below W.heap.size W V) (hlB : Bl < w.heap.size) : HasT Br Bl w V v t :=
  ⟨bcall h.b hb h.b.size, h.c, fun W' hk => h.h W' ((KpL.of_below hb (Nat.lt_of_lt_of_le hlB h.b.size)).trans hk)⟩
def comesL (k arg : Int) (p : List NV) (t0 t1 : List IV) : List (RV × Int) :=
  if k = 5 then eachP k arg p (t0 ++ t1) else if k = 9 ∨ k = 14 then byKeysL k t0 t1 else if k = 6 ∨ k = 7 then byKeysL k t0 [] else if eachKind k = true then eachP k arg p t0 else []
/-- what comes is asked of these -/
structure ComesA (Br Bl : Nat) (k s arg : Int) (q : Option Addr) (c : Nat) (p : List NV) (pv : Value) (t0 t1 : List IV) (w : World) : Prop where
  lB : Bl < w.heap.size
  rB : Br < w.heap.size
  ptr : ∀ g, rowPtr w Bl = some g → g < w.heap.size
  pl : k = 2 → p.length ≤ 900000
  pn : ∀ x ∈ p, inR x.n
  pi : ∀ W', KpL Br Bl w W' → RC.Is W' (.slice q p.length c) p
  arg : inR arg
  l0 : t0.length ≤ 400000
  l1 : t1.length ≤ 400000
  q0 : ∀ c ∈ t0, (inR c.t.k ∧ inR c.t.v) ∧ 0 ≤ c.n ∧ c.n ≤ 2147483648
  q1 : ∀ c ∈ t1, (inR c.t.k ∧ inR c.t.v) ∧ 0 ≤ c.n ∧ c.n ≤ 2147483648
  c0 : ∀ V, Below w.heap.size w V → Calls Tryz.prog 138 #[pv, .int .i64 0] V (fun e W => ∃ v, e = .returned v ∧ HasT Br Bl w W v t0 ∧ Below V.heap.size V W)
  c1 : ∀ V, Below w.heap.size w V → Calls Tryz.prog 138 #[pv, .int .i64 1] V (fun e W => ∃ v, e = .returned v ∧ HasT Br Bl w W v t1 ∧ Below V.heap.size V W)
theorem comes_each {Kp : World → World → Prop} {Br Bl : Nat} (hKp : ∀ A B, Kp A B → KpL Br Bl A B) {k s arg : Int} {q : Option Addr} {c : Nat} {p : List NV} {pv : Value} {t0 t1 : List IV} {w : World} (h : ComesA Br Bl k s arg q c p pv t0 t1 w)
    {V : World} {v : Value} {xs : List IV} (hx : HasT Br Bl w V v xs) (hl : xs.length ≤ 900000) (hq : ∀ c ∈ xs, inR c.t.k ∧ inR c.t.v) :
    Calls Tryz.prog 137 #[.agg #[.int .i64 k, .int .i64 s, .int .i64 arg, .slice q p.length c], v] V (fun e W => GivesI Kp (eachP k arg p xs) w e W) := by
  have hsz := hx.b.size
  refine (ofEach_gives Br Bl hKp k s arg q c p xs v V (Nat.lt_of_lt_of_le h.lB hsz) (Nat.lt_of_lt_of_le h.rB hsz) (fun g e => Nat.lt_of_lt_of_le (below_ptr (Br := Br) hx.b h.lB h.ptr g e) hsz) hl h.pl h.pn h.arg hq fun W' hk => ⟨hx.h W' hk, h.pi W' ((KpL.of_below hx.b h.lB).trans hk)⟩).mono ?_
  rintro e W ⟨gf, lb, rfl, hb, hen, hit⟩
  exact ⟨gf, lb, rfl, bcall hx.b hb hsz, hen, hit⟩
theorem comes_keys {Kp : World → World → Prop} {Br Bl : Nat} (hKp : ∀ A B, Kp A B → KpL Br Bl A B) {k s arg : Int} {q : Option Addr} {c : Nat} {p : List NV} {pv : Value} {t0 t1 : List IV} {w : World} (h : ComesA Br Bl k s arg q c p pv t0 t1 w)
    {V : World} {va vb : Value} {a b : List IV} (ha : HasT Br Bl w V va a) (hb : HasT Br Bl w V vb b) (hl : a.length ≤ 900000) (hlb : b.length ≤ 900000) (hq : ∀ c ∈ a, (inR c.t.k ∧ inR c.t.v) ∧ 0 ≤ c.n ∧ c.n ≤ 2147483648) (hqo : ∀ c ∈ b, (inR c.t.k ∧ inR c.t.v) ∧ 0 ≤ c.n ∧ c.n ≤ 2147483648) :
    Calls Tryz.prog 139 #[.int .i64 k, va, vb] V (fun e W => GivesI Kp (byKeysL k a b) w e W) := by
  have hsz := ha.b.size
  refine (ofKeys_gives Br Bl hKp k a b va vb V (Nat.lt_of_lt_of_le h.lB hsz) (Nat.lt_of_lt_of_le h.rB hsz) (fun g e => Nat.lt_of_lt_of_le (below_ptr (Br := Br) ha.b h.lB h.ptr g e) hsz) hl hlb ha.c hb.c hq hqo fun W' hk => ⟨ha.h W' hk, hb.h W' hk⟩).mono ?_
  rintro e W ⟨gf, lb, rfl, hb', hen, hit⟩
  exact ⟨gf, lb, rfl, bcall ha.b hb' hsz, hen, hit⟩
theorem HasT.nil {Br Bl : Nat} {w W : World} (h : Below w.heap.size w W) : HasT Br Bl w W (.slice none 0 0) [] := ⟨h, fun _ _ _ e => by cases e; exact Nat.le_refl _, fun _ _ => .inl ⟨rfl, _, _, rfl, fun _ => rfl⟩⟩
-- WALKS
theorem node_kept (w : World) (k s arg : Int) (pv : Value) (V : World) (hV : Below (w.alloc (.cells #[.int .i64 k, .int .i64 s, .int .i64 arg, pv] 47)).heap.size (w.alloc (.cells #[.int .i64 k, .int .i64 s, .int .i64 arg, pv] 47)) V) :
    V.cell? ⟨w.heap.size, 0, none⟩ = some (.int .i64 k) ∧ V.cell? ⟨w.heap.size, 1, none⟩ = some (.int .i64 s) ∧ V.cell? ⟨w.heap.size, 2, none⟩ = some (.int .i64 arg) ∧ V.cell? ⟨w.heap.size, 3, none⟩ = some pv := by
  have e : V.heap[w.heap.size]? = some (.cells #[.int .i64 k, .int .i64 s, .int .i64 arg, pv] 47 (0, 0)) := (hV.block w.heap.size (by simp)).trans (World.alloc_heap_new w _)
  exact ⟨cells_of e rfl, cells_of e rfl, cells_of e rfl, cells_of e rfl⟩
theorem concat_gives {Br Bl : Nat} {w W : World} (hlB : Bl < w.heap.size) (hrB : Br < w.heap.size) (hptr : ∀ g, rowPtr w Bl = some g → g < w.heap.size) {pa pb : Option Addr} {na ca nb cb : Nat} {t0 t1 : List IV} (ha : HasT Br Bl w W (.slice pa na ca) t0) (hb : HasT Br Bl w W (.slice pb nb cb) t1) (hl : t0.length + t1.length ≤ 900000) :
    Calls Tryz.prog 111 #[.slice (some ⟨W.heap.size, 0, none⟩) 2 2] (W.alloc (.cells #[.slice pa na ca, .slice pb nb cb] 37)) (fun e V => ∃ v, e = .returned v ∧ HasT Br Bl w V v (t0 ++ t1) ∧ Below (W.alloc (.cells #[.slice pa na ca, .slice pb nb cb] 37)).heap.size (W.alloc (.cells #[.slice pa na ca, .slice pb nb cb] 37)) V) := by
  have hal : Below W.heap.size W (W.alloc (.cells #[.slice pa na ca, .slice pb nb cb] 37)) := (Below.refl _ W).alloc (Nat.le_refl _) _
  have e := World.alloc_heap_new W (.cells #[.slice pa na ca, .slice pb nb cb] 37)
  refine (concatI2_any t0 t1 _ _ W.heap.size _ hl ((ha.below hal hlB).h _ (KpL.refl _ _ _)) ((hb.below hal hlB).h _ (KpL.refl _ _ _)) (cells_of e rfl) (cells_of e rfl) (by simp)).mono ?_
  intro e' V hm
  exact hasT_made hm (bcall ha.b hal ha.b.size) hlB hrB hptr
theorem comes1_iter (Kp : World → World → Prop) (w : World) : Iter Tryz.prog 140 #[] encO Kp [] w := fun l J Jx W hW hJ hJx hY hj => by
  go_enter Tryz.func140, Tryz.ntmps140
  go_wp2
  go_returns
  exact ⟨⟨_, rfl⟩, .inl hj⟩
set_option maxRecDepth 100000 in
set_option maxHeartbeats 8000000 in
theorem comes_1 {Kp : World → World → Prop} {Br Bl : Nat} (hKp : ∀ A B, Kp A B → KpL Br Bl A B) (k s arg : Int) (q : Option Addr) (c : Nat) (p : List NV) (pp : Option Addr) (m cp : Nat) (t0 t1 : List IV) (w : World) (h : ComesA Br Bl k s arg q c p (.slice pp m cp) t0 t1 w) (hk : k = 1) :
    Calls Tryz.prog 100 #[.agg #[.int .i64 k, .int .i64 s, .int .i64 arg, .slice q p.length c], .slice pp m cp] w (GivesI Kp (eachP k arg p t0) w) := by
  have HC0 : Hid (∀ V, Below w.heap.size w V → Calls Tryz.prog 138 #[.slice pp m cp, .int .i64 0] V (fun e W => ∃ v, e = .returned v ∧ HasT Br Bl w W v t0 ∧ Below V.heap.size V W)) := h.c0
  have HC1 : Hid (∀ V, Below w.heap.size w V → Calls Tryz.prog 138 #[.slice pp m cp, .int .i64 1] V (fun e W => ∃ v, e = .returned v ∧ HasT Br Bl w W v t1 ∧ Below V.heap.size V W)) := h.c1
  have HE : Hid (∀ V v, HasT Br Bl w V v t0 → Calls Tryz.prog 137 #[.agg #[.int .i64 k, .int .i64 s, .int .i64 arg, .slice q p.length c], v] V (fun e W => GivesI Kp (eachP k arg p t0) w e W)) :=
    fun V v hv => comes_each hKp h hv (Nat.le_trans h.l0 (by decide)) (fun c hc => (h.q0 c hc).1)
  have hlB := h.lB
  have HL : Hid (t0.length ≤ 400000 ∧ t1.length ≤ 400000) := ⟨h.l0, h.l1⟩
  clear h
  go_enter Tryz.func100, Tryz.ntmps100
  subst hk
  go_wp2
  refine gen_world (fun U => Below w.heap.size w U ∧ ∀ V, Below U.heap.size U V → V.cell? ⟨w.heap.size, 0, none⟩ = some (.int .i64 1) ∧ V.cell? ⟨w.heap.size, 1, none⟩ = some (.int .i64 s) ∧ V.cell? ⟨w.heap.size, 2, none⟩ = some (.int .i64 arg) ∧ V.cell? ⟨w.heap.size, 3, none⟩ = some (.slice q p.length c)) ⟨by go_grown, fun V hV => node_kept w _ _ _ _ V hV⟩ ?_
  rintro U ⟨hbU, hcU⟩
  have HBU := Lib.hid hbU
  have HCU := Lib.hid hcU
  obtain ⟨z0, z1, z2, z3⟩ := hcU _ (Below.refl _ _).drew
  clear hbU hcU
  go_region_law (first
    | (go_simp; go_at_call 138; (with_reducible refine Calls.mono (HC0.out _ HBU.out.drew) ?_); rintro e W1 ⟨v1, rfl, h1, hb1⟩; obtain ⟨y0, y1, y2, y3⟩ := HCU.out W1 (bcall (Below.refl _ _).drew hb1 (by simp)))
    | (go_simp; go_at_call 137; (with_reducible refine Calls.mono (HE.out _ _ h1) ?_); rintro e W2 ⟨gf, lb, rfl, hb2, hen, hit⟩))
  all_goals try simp only [List.getElem_toArray, List.getElem_cons_succ, List.getElem_cons_zero, Act.put, List.setIfInBounds_toArray, List.set_cons_zero, List.set_cons_succ]
  all_goals go_wp2
  all_goals go_returns
  all_goals exact ⟨gf, lb, rfl, hb2, hen, hit⟩
set_option maxRecDepth 100000 in
set_option maxHeartbeats 8000000 in
theorem comes_2 {Kp : World → World → Prop} {Br Bl : Nat} (hKp : ∀ A B, Kp A B → KpL Br Bl A B) (k s arg : Int) (q : Option Addr) (c : Nat) (p : List NV) (pp : Option Addr) (m cp : Nat) (t0 t1 : List IV) (w : World) (h : ComesA Br Bl k s arg q c p (.slice pp m cp) t0 t1 w) (hk : k = 2) :
    Calls Tryz.prog 100 #[.agg #[.int .i64 k, .int .i64 s, .int .i64 arg, .slice q p.length c], .slice pp m cp] w (GivesI Kp (eachP k arg p t0) w) := by
  have HC0 : Hid (∀ V, Below w.heap.size w V → Calls Tryz.prog 138 #[.slice pp m cp, .int .i64 0] V (fun e W => ∃ v, e = .returned v ∧ HasT Br Bl w W v t0 ∧ Below V.heap.size V W)) := h.c0
  have HC1 : Hid (∀ V, Below w.heap.size w V → Calls Tryz.prog 138 #[.slice pp m cp, .int .i64 1] V (fun e W => ∃ v, e = .returned v ∧ HasT Br Bl w W v t1 ∧ Below V.heap.size V W)) := h.c1
  have HE : Hid (∀ V v, HasT Br Bl w V v t0 → Calls Tryz.prog 137 #[.agg #[.int .i64 k, .int .i64 s, .int .i64 arg, .slice q p.length c], v] V (fun e W => GivesI Kp (eachP k arg p t0) w e W)) :=
    fun V v hv => comes_each hKp h hv (Nat.le_trans h.l0 (by decide)) (fun c hc => (h.q0 c hc).1)
  have hlB := h.lB
  have HL : Hid (t0.length ≤ 400000 ∧ t1.length ≤ 400000) := ⟨h.l0, h.l1⟩
  clear h
  go_enter Tryz.func100, Tryz.ntmps100
  subst hk
  go_wp2
  refine gen_world (fun U => Below w.heap.size w U ∧ ∀ V, Below U.heap.size U V → V.cell? ⟨w.heap.size, 0, none⟩ = some (.int .i64 2) ∧ V.cell? ⟨w.heap.size, 1, none⟩ = some (.int .i64 s) ∧ V.cell? ⟨w.heap.size, 2, none⟩ = some (.int .i64 arg) ∧ V.cell? ⟨w.heap.size, 3, none⟩ = some (.slice q p.length c)) ⟨by go_grown, fun V hV => node_kept w _ _ _ _ V hV⟩ ?_
  rintro U ⟨hbU, hcU⟩
  have HBU := Lib.hid hbU
  have HCU := Lib.hid hcU
  obtain ⟨z0, z1, z2, z3⟩ := hcU _ (Below.refl _ _).drew
  clear hbU hcU
  go_region_law (first
    | (go_simp; go_at_call 138; (with_reducible refine Calls.mono (HC0.out _ HBU.out.drew) ?_); rintro e W1 ⟨v1, rfl, h1, hb1⟩; obtain ⟨y0, y1, y2, y3⟩ := HCU.out W1 (bcall (Below.refl _ _).drew hb1 (by simp)))
    | (go_simp; go_at_call 137; (with_reducible refine Calls.mono (HE.out _ _ h1) ?_); rintro e W2 ⟨gf, lb, rfl, hb2, hen, hit⟩))
  all_goals try simp only [List.getElem_toArray, List.getElem_cons_succ, List.getElem_cons_zero, Act.put, List.setIfInBounds_toArray, List.set_cons_zero, List.set_cons_succ]
  all_goals go_wp2
  all_goals go_returns
  all_goals exact ⟨gf, lb, rfl, hb2, hen, hit⟩
set_option maxRecDepth 100000 in
set_option maxHeartbeats 8000000 in
theorem comes_3 {Kp : World → World → Prop} {Br Bl : Nat} (hKp : ∀ A B, Kp A B → KpL Br Bl A B) (k s arg : Int) (q : Option Addr) (c : Nat) (p : List NV) (pp : Option Addr) (m cp : Nat) (t0 t1 : List IV) (w : World) (h : ComesA Br Bl k s arg q c p (.slice pp m cp) t0 t1 w) (hk : k = 3) :
    Calls Tryz.prog 100 #[.agg #[.int .i64 k, .int .i64 s, .int .i64 arg, .slice q p.length c], .slice pp m cp] w (GivesI Kp (eachP k arg p t0) w) := by
  have HC0 : Hid (∀ V, Below w.heap.size w V → Calls Tryz.prog 138 #[.slice pp m cp, .int .i64 0] V (fun e W => ∃ v, e = .returned v ∧ HasT Br Bl w W v t0 ∧ Below V.heap.size V W)) := h.c0
  have HC1 : Hid (∀ V, Below w.heap.size w V → Calls Tryz.prog 138 #[.slice pp m cp, .int .i64 1] V (fun e W => ∃ v, e = .returned v ∧ HasT Br Bl w W v t1 ∧ Below V.heap.size V W)) := h.c1
  have HE : Hid (∀ V v, HasT Br Bl w V v t0 → Calls Tryz.prog 137 #[.agg #[.int .i64 k, .int .i64 s, .int .i64 arg, .slice q p.length c], v] V (fun e W => GivesI Kp (eachP k arg p t0) w e W)) :=
    fun V v hv => comes_each hKp h hv (Nat.le_trans h.l0 (by decide)) (fun c hc => (h.q0 c hc).1)
  have hlB := h.lB
  have HL : Hid (t0.length ≤ 400000 ∧ t1.length ≤ 400000) := ⟨h.l0, h.l1⟩
  clear h
  go_enter Tryz.func100, Tryz.ntmps100
  subst hk
  go_wp2
  refine gen_world (fun U => Below w.heap.size w U ∧ ∀ V, Below U.heap.size U V → V.cell? ⟨w.heap.size, 0, none⟩ = some (.int .i64 3) ∧ V.cell? ⟨w.heap.size, 1, none⟩ = some (.int .i64 s) ∧ V.cell? ⟨w.heap.size, 2, none⟩ = some (.int .i64 arg) ∧ V.cell? ⟨w.heap.size, 3, none⟩ = some (.slice q p.length c)) ⟨by go_grown, fun V hV => node_kept w _ _ _ _ V hV⟩ ?_
  rintro U ⟨hbU, hcU⟩
  have HBU := Lib.hid hbU
  have HCU := Lib.hid hcU
  obtain ⟨z0, z1, z2, z3⟩ := hcU _ (Below.refl _ _).drew
  clear hbU hcU
  go_region_law (first
    | (go_simp; go_at_call 138; (with_reducible refine Calls.mono (HC0.out _ HBU.out.drew) ?_); rintro e W1 ⟨v1, rfl, h1, hb1⟩; obtain ⟨y0, y1, y2, y3⟩ := HCU.out W1 (bcall (Below.refl _ _).drew hb1 (by simp)))
    | (go_simp; go_at_call 137; (with_reducible refine Calls.mono (HE.out _ _ h1) ?_); rintro e W2 ⟨gf, lb, rfl, hb2, hen, hit⟩))
  all_goals try simp only [List.getElem_toArray, List.getElem_cons_succ, List.getElem_cons_zero, Act.put, List.setIfInBounds_toArray, List.set_cons_zero, List.set_cons_succ]
  all_goals go_wp2
  all_goals go_returns
  all_goals exact ⟨gf, lb, rfl, hb2, hen, hit⟩
set_option maxRecDepth 100000 in
set_option maxHeartbeats 8000000 in
theorem comes_4 {Kp : World → World → Prop} {Br Bl : Nat} (hKp : ∀ A B, Kp A B → KpL Br Bl A B) (k s arg : Int) (q : Option Addr) (c : Nat) (p : List NV) (pp : Option Addr) (m cp : Nat) (t0 t1 : List IV) (w : World) (h : ComesA Br Bl k s arg q c p (.slice pp m cp) t0 t1 w) (hk : k = 4) :
    Calls Tryz.prog 100 #[.agg #[.int .i64 k, .int .i64 s, .int .i64 arg, .slice q p.length c], .slice pp m cp] w (GivesI Kp (eachP k arg p t0) w) := by
  have HC0 : Hid (∀ V, Below w.heap.size w V → Calls Tryz.prog 138 #[.slice pp m cp, .int .i64 0] V (fun e W => ∃ v, e = .returned v ∧ HasT Br Bl w W v t0 ∧ Below V.heap.size V W)) := h.c0
  have HC1 : Hid (∀ V, Below w.heap.size w V → Calls Tryz.prog 138 #[.slice pp m cp, .int .i64 1] V (fun e W => ∃ v, e = .returned v ∧ HasT Br Bl w W v t1 ∧ Below V.heap.size V W)) := h.c1
  have HE : Hid (∀ V v, HasT Br Bl w V v t0 → Calls Tryz.prog 137 #[.agg #[.int .i64 k, .int .i64 s, .int .i64 arg, .slice q p.length c], v] V (fun e W => GivesI Kp (eachP k arg p t0) w e W)) :=
    fun V v hv => comes_each hKp h hv (Nat.le_trans h.l0 (by decide)) (fun c hc => (h.q0 c hc).1)
  have hlB := h.lB
  have HL : Hid (t0.length ≤ 400000 ∧ t1.length ≤ 400000) := ⟨h.l0, h.l1⟩
  clear h
  go_enter Tryz.func100, Tryz.ntmps100
  subst hk
  go_wp2
  refine gen_world (fun U => Below w.heap.size w U ∧ ∀ V, Below U.heap.size U V → V.cell? ⟨w.heap.size, 0, none⟩ = some (.int .i64 4) ∧ V.cell? ⟨w.heap.size, 1, none⟩ = some (.int .i64 s) ∧ V.cell? ⟨w.heap.size, 2, none⟩ = some (.int .i64 arg) ∧ V.cell? ⟨w.heap.size, 3, none⟩ = some (.slice q p.length c)) ⟨by go_grown, fun V hV => node_kept w _ _ _ _ V hV⟩ ?_
  rintro U ⟨hbU, hcU⟩
  have HBU := Lib.hid hbU
  have HCU := Lib.hid hcU
  obtain ⟨z0, z1, z2, z3⟩ := hcU _ (Below.refl _ _).drew
  clear hbU hcU
  go_region_law (first
    | (go_simp; go_at_call 138; (with_reducible refine Calls.mono (HC0.out _ HBU.out.drew) ?_); rintro e W1 ⟨v1, rfl, h1, hb1⟩; obtain ⟨y0, y1, y2, y3⟩ := HCU.out W1 (bcall (Below.refl _ _).drew hb1 (by simp)))
    | (go_simp; go_at_call 137; (with_reducible refine Calls.mono (HE.out _ _ h1) ?_); rintro e W2 ⟨gf, lb, rfl, hb2, hen, hit⟩))
  all_goals try simp only [List.getElem_toArray, List.getElem_cons_succ, List.getElem_cons_zero, Act.put, List.setIfInBounds_toArray, List.set_cons_zero, List.set_cons_succ]
  all_goals go_wp2
  all_goals go_returns
  all_goals exact ⟨gf, lb, rfl, hb2, hen, hit⟩
set_option maxRecDepth 100000 in
set_option maxHeartbeats 8000000 in
theorem comes_8 {Kp : World → World → Prop} {Br Bl : Nat} (hKp : ∀ A B, Kp A B → KpL Br Bl A B) (k s arg : Int) (q : Option Addr) (c : Nat) (p : List NV) (pp : Option Addr) (m cp : Nat) (t0 t1 : List IV) (w : World) (h : ComesA Br Bl k s arg q c p (.slice pp m cp) t0 t1 w) (hk : k = 8) :
    Calls Tryz.prog 100 #[.agg #[.int .i64 k, .int .i64 s, .int .i64 arg, .slice q p.length c], .slice pp m cp] w (GivesI Kp (eachP k arg p t0) w) := by
  have HC0 : Hid (∀ V, Below w.heap.size w V → Calls Tryz.prog 138 #[.slice pp m cp, .int .i64 0] V (fun e W => ∃ v, e = .returned v ∧ HasT Br Bl w W v t0 ∧ Below V.heap.size V W)) := h.c0
  have HC1 : Hid (∀ V, Below w.heap.size w V → Calls Tryz.prog 138 #[.slice pp m cp, .int .i64 1] V (fun e W => ∃ v, e = .returned v ∧ HasT Br Bl w W v t1 ∧ Below V.heap.size V W)) := h.c1
  have HE : Hid (∀ V v, HasT Br Bl w V v t0 → Calls Tryz.prog 137 #[.agg #[.int .i64 k, .int .i64 s, .int .i64 arg, .slice q p.length c], v] V (fun e W => GivesI Kp (eachP k arg p t0) w e W)) :=
    fun V v hv => comes_each hKp h hv (Nat.le_trans h.l0 (by decide)) (fun c hc => (h.q0 c hc).1)
  have hlB := h.lB
  have HL : Hid (t0.length ≤ 400000 ∧ t1.length ≤ 400000) := ⟨h.l0, h.l1⟩
  clear h
  go_enter Tryz.func100, Tryz.ntmps100
  subst hk
  go_wp2
  refine gen_world (fun U => Below w.heap.size w U ∧ ∀ V, Below U.heap.size U V → V.cell? ⟨w.heap.size, 0, none⟩ = some (.int .i64 8) ∧ V.cell? ⟨w.heap.size, 1, none⟩ = some (.int .i64 s) ∧ V.cell? ⟨w.heap.size, 2, none⟩ = some (.int .i64 arg) ∧ V.cell? ⟨w.heap.size, 3, none⟩ = some (.slice q p.length c)) ⟨by go_grown, fun V hV => node_kept w _ _ _ _ V hV⟩ ?_
  rintro U ⟨hbU, hcU⟩
  have HBU := Lib.hid hbU
  have HCU := Lib.hid hcU
  obtain ⟨z0, z1, z2, z3⟩ := hcU _ (Below.refl _ _).drew
  clear hbU hcU
  go_region_law (first
    | (go_simp; go_at_call 138; (with_reducible refine Calls.mono (HC0.out _ HBU.out.drew) ?_); rintro e W1 ⟨v1, rfl, h1, hb1⟩; obtain ⟨y0, y1, y2, y3⟩ := HCU.out W1 (bcall (Below.refl _ _).drew hb1 (by simp)))
    | (go_simp; go_at_call 137; (with_reducible refine Calls.mono (HE.out _ _ h1) ?_); rintro e W2 ⟨gf, lb, rfl, hb2, hen, hit⟩))
  all_goals try simp only [List.getElem_toArray, List.getElem_cons_succ, List.getElem_cons_zero, Act.put, List.setIfInBounds_toArray, List.set_cons_zero, List.set_cons_succ]
  all_goals go_wp2
  all_goals go_returns
  all_goals exact ⟨gf, lb, rfl, hb2, hen, hit⟩
set_option maxRecDepth 100000 in
set_option maxHeartbeats 8000000 in
theorem comes_10 {Kp : World → World → Prop} {Br Bl : Nat} (hKp : ∀ A B, Kp A B → KpL Br Bl A B) (k s arg : Int) (q : Option Addr) (c : Nat) (p : List NV) (pp : Option Addr) (m cp : Nat) (t0 t1 : List IV) (w : World) (h : ComesA Br Bl k s arg q c p (.slice pp m cp) t0 t1 w) (hk : k = 10) :
    Calls Tryz.prog 100 #[.agg #[.int .i64 k, .int .i64 s, .int .i64 arg, .slice q p.length c], .slice pp m cp] w (GivesI Kp (eachP k arg p t0) w) := by
  have HC0 : Hid (∀ V, Below w.heap.size w V → Calls Tryz.prog 138 #[.slice pp m cp, .int .i64 0] V (fun e W => ∃ v, e = .returned v ∧ HasT Br Bl w W v t0 ∧ Below V.heap.size V W)) := h.c0
  have HC1 : Hid (∀ V, Below w.heap.size w V → Calls Tryz.prog 138 #[.slice pp m cp, .int .i64 1] V (fun e W => ∃ v, e = .returned v ∧ HasT Br Bl w W v t1 ∧ Below V.heap.size V W)) := h.c1
  have HE : Hid (∀ V v, HasT Br Bl w V v t0 → Calls Tryz.prog 137 #[.agg #[.int .i64 k, .int .i64 s, .int .i64 arg, .slice q p.length c], v] V (fun e W => GivesI Kp (eachP k arg p t0) w e W)) :=
    fun V v hv => comes_each hKp h hv (Nat.le_trans h.l0 (by decide)) (fun c hc => (h.q0 c hc).1)
  have hlB := h.lB
  have HL : Hid (t0.length ≤ 400000 ∧ t1.length ≤ 400000) := ⟨h.l0, h.l1⟩
  clear h
  go_enter Tryz.func100, Tryz.ntmps100
  subst hk
  go_wp2
  refine gen_world (fun U => Below w.heap.size w U ∧ ∀ V, Below U.heap.size U V → V.cell? ⟨w.heap.size, 0, none⟩ = some (.int .i64 10) ∧ V.cell? ⟨w.heap.size, 1, none⟩ = some (.int .i64 s) ∧ V.cell? ⟨w.heap.size, 2, none⟩ = some (.int .i64 arg) ∧ V.cell? ⟨w.heap.size, 3, none⟩ = some (.slice q p.length c)) ⟨by go_grown, fun V hV => node_kept w _ _ _ _ V hV⟩ ?_
  rintro U ⟨hbU, hcU⟩
  have HBU := Lib.hid hbU
  have HCU := Lib.hid hcU
  obtain ⟨z0, z1, z2, z3⟩ := hcU _ (Below.refl _ _).drew
  clear hbU hcU
  go_region_law (first
    | (go_simp; go_at_call 138; (with_reducible refine Calls.mono (HC0.out _ HBU.out.drew) ?_); rintro e W1 ⟨v1, rfl, h1, hb1⟩; obtain ⟨y0, y1, y2, y3⟩ := HCU.out W1 (bcall (Below.refl _ _).drew hb1 (by simp)))
    | (go_simp; go_at_call 137; (with_reducible refine Calls.mono (HE.out _ _ h1) ?_); rintro e W2 ⟨gf, lb, rfl, hb2, hen, hit⟩))
  all_goals try simp only [List.getElem_toArray, List.getElem_cons_succ, List.getElem_cons_zero, Act.put, List.setIfInBounds_toArray, List.set_cons_zero, List.set_cons_succ]
  all_goals go_wp2
  all_goals go_returns
  all_goals exact ⟨gf, lb, rfl, hb2, hen, hit⟩
set_option maxRecDepth 100000 in
set_option maxHeartbeats 8000000 in
theorem comes_11 {Kp : World → World → Prop} {Br Bl : Nat} (hKp : ∀ A B, Kp A B → KpL Br Bl A B) (k s arg : Int) (q : Option Addr) (c : Nat) (p : List NV) (pp : Option Addr) (m cp : Nat) (t0 t1 : List IV) (w : World) (h : ComesA Br Bl k s arg q c p (.slice pp m cp) t0 t1 w) (hk : k = 11) :
    Calls Tryz.prog 100 #[.agg #[.int .i64 k, .int .i64 s, .int .i64 arg, .slice q p.length c], .slice pp m cp] w (GivesI Kp (eachP k arg p t0) w) := by
  have HC0 : Hid (∀ V, Below w.heap.size w V → Calls Tryz.prog 138 #[.slice pp m cp, .int .i64 0] V (fun e W => ∃ v, e = .returned v ∧ HasT Br Bl w W v t0 ∧ Below V.heap.size V W)) := h.c0
  have HC1 : Hid (∀ V, Below w.heap.size w V → Calls Tryz.prog 138 #[.slice pp m cp, .int .i64 1] V (fun e W => ∃ v, e = .returned v ∧ HasT Br Bl w W v t1 ∧ Below V.heap.size V W)) := h.c1
  have HE : Hid (∀ V v, HasT Br Bl w V v t0 → Calls Tryz.prog 137 #[.agg #[.int .i64 k, .int .i64 s, .int .i64 arg, .slice q p.length c], v] V (fun e W => GivesI Kp (eachP k arg p t0) w e W)) :=
    fun V v hv => comes_each hKp h hv (Nat.le_trans h.l0 (by decide)) (fun c hc => (h.q0 c hc).1)
  have hlB := h.lB
  have HL : Hid (t0.length ≤ 400000 ∧ t1.length ≤ 400000) := ⟨h.l0, h.l1⟩
  clear h
  go_enter Tryz.func100, Tryz.ntmps100
  subst hk
  go_wp2
  refine gen_world (fun U => Below w.heap.size w U ∧ ∀ V, Below U.heap.size U V → V.cell? ⟨w.heap.size, 0, none⟩ = some (.int .i64 11) ∧ V.cell? ⟨w.heap.size, 1, none⟩ = some (.int .i64 s) ∧ V.cell? ⟨w.heap.size, 2, none⟩ = some (.int .i64 arg) ∧ V.cell? ⟨w.heap.size, 3, none⟩ = some (.slice q p.length c)) ⟨by go_grown, fun V hV => node_kept w _ _ _ _ V hV⟩ ?_
  rintro U ⟨hbU, hcU⟩
  have HBU := Lib.hid hbU
  have HCU := Lib.hid hcU
  obtain ⟨z0, z1, z2, z3⟩ := hcU _ (Below.refl _ _).drew
  clear hbU hcU
  go_region_law (first
    | (go_simp; go_at_call 138; (with_reducible refine Calls.mono (HC0.out _ HBU.out.drew) ?_); rintro e W1 ⟨v1, rfl, h1, hb1⟩; obtain ⟨y0, y1, y2, y3⟩ := HCU.out W1 (bcall (Below.refl _ _).drew hb1 (by simp)))
    | (go_simp; go_at_call 137; (with_reducible refine Calls.mono (HE.out _ _ h1) ?_); rintro e W2 ⟨gf, lb, rfl, hb2, hen, hit⟩))
  all_goals try simp only [List.getElem_toArray, List.getElem_cons_succ, List.getElem_cons_zero, Act.put, List.setIfInBounds_toArray, List.set_cons_zero, List.set_cons_succ]
  all_goals go_wp2
  all_goals go_returns
  all_goals exact ⟨gf, lb, rfl, hb2, hen, hit⟩
set_option maxRecDepth 100000 in
set_option maxHeartbeats 8000000 in
theorem comes_12 {Kp : World → World → Prop} {Br Bl : Nat} (hKp : ∀ A B, Kp A B → KpL Br Bl A B) (k s arg : Int) (q : Option Addr) (c : Nat) (p : List NV) (pp : Option Addr) (m cp : Nat) (t0 t1 : List IV) (w : World) (h : ComesA Br Bl k s arg q c p (.slice pp m cp) t0 t1 w) (hk : k = 12) :
    Calls Tryz.prog 100 #[.agg #[.int .i64 k, .int .i64 s, .int .i64 arg, .slice q p.length c], .slice pp m cp] w (GivesI Kp (eachP k arg p t0) w) := by
  have HC0 : Hid (∀ V, Below w.heap.size w V → Calls Tryz.prog 138 #[.slice pp m cp, .int .i64 0] V (fun e W => ∃ v, e = .returned v ∧ HasT Br Bl w W v t0 ∧ Below V.heap.size V W)) := h.c0
  have HC1 : Hid (∀ V, Below w.heap.size w V → Calls Tryz.prog 138 #[.slice pp m cp, .int .i64 1] V (fun e W => ∃ v, e = .returned v ∧ HasT Br Bl w W v t1 ∧ Below V.heap.size V W)) := h.c1
  have HE : Hid (∀ V v, HasT Br Bl w V v t0 → Calls Tryz.prog 137 #[.agg #[.int .i64 k, .int .i64 s, .int .i64 arg, .slice q p.length c], v] V (fun e W => GivesI Kp (eachP k arg p t0) w e W)) :=
    fun V v hv => comes_each hKp h hv (Nat.le_trans h.l0 (by decide)) (fun c hc => (h.q0 c hc).1)
  have hlB := h.lB
  have HL : Hid (t0.length ≤ 400000 ∧ t1.length ≤ 400000) := ⟨h.l0, h.l1⟩
  clear h
  go_enter Tryz.func100, Tryz.ntmps100
  subst hk
  go_wp2
  refine gen_world (fun U => Below w.heap.size w U ∧ ∀ V, Below U.heap.size U V → V.cell? ⟨w.heap.size, 0, none⟩ = some (.int .i64 12) ∧ V.cell? ⟨w.heap.size, 1, none⟩ = some (.int .i64 s) ∧ V.cell? ⟨w.heap.size, 2, none⟩ = some (.int .i64 arg) ∧ V.cell? ⟨w.heap.size, 3, none⟩ = some (.slice q p.length c)) ⟨by go_grown, fun V hV => node_kept w _ _ _ _ V hV⟩ ?_
  rintro U ⟨hbU, hcU⟩
  have HBU := Lib.hid hbU
  have HCU := Lib.hid hcU
  obtain ⟨z0, z1, z2, z3⟩ := hcU _ (Below.refl _ _).drew
  clear hbU hcU
  go_region_law (first
    | (go_simp; go_at_call 138; (with_reducible refine Calls.mono (HC0.out _ HBU.out.drew) ?_); rintro e W1 ⟨v1, rfl, h1, hb1⟩; obtain ⟨y0, y1, y2, y3⟩ := HCU.out W1 (bcall (Below.refl _ _).drew hb1 (by simp)))
    | (go_simp; go_at_call 137; (with_reducible refine Calls.mono (HE.out _ _ h1) ?_); rintro e W2 ⟨gf, lb, rfl, hb2, hen, hit⟩))
  all_goals try simp only [List.getElem_toArray, List.getElem_cons_succ, List.getElem_cons_zero, Act.put, List.setIfInBounds_toArray, List.set_cons_zero, List.set_cons_succ]
  all_goals go_wp2
  all_goals go_returns
  all_goals exact ⟨gf, lb, rfl, hb2, hen, hit⟩
set_option maxRecDepth 100000 in
set_option maxHeartbeats 8000000 in
theorem comes_13 {Kp : World → World → Prop} {Br Bl : Nat} (hKp : ∀ A B, Kp A B → KpL Br Bl A B) (k s arg : Int) (q : Option Addr) (c : Nat) (p : List NV) (pp : Option Addr) (m cp : Nat) (t0 t1 : List IV) (w : World) (h : ComesA Br Bl k s arg q c p (.slice pp m cp) t0 t1 w) (hk : k = 13) :
    Calls Tryz.prog 100 #[.agg #[.int .i64 k, .int .i64 s, .int .i64 arg, .slice q p.length c], .slice pp m cp] w (GivesI Kp (eachP k arg p t0) w) := by
  have HC0 : Hid (∀ V, Below w.heap.size w V → Calls Tryz.prog 138 #[.slice pp m cp, .int .i64 0] V (fun e W => ∃ v, e = .returned v ∧ HasT Br Bl w W v t0 ∧ Below V.heap.size V W)) := h.c0
  have HC1 : Hid (∀ V, Below w.heap.size w V → Calls Tryz.prog 138 #[.slice pp m cp, .int .i64 1] V (fun e W => ∃ v, e = .returned v ∧ HasT Br Bl w W v t1 ∧ Below V.heap.size V W)) := h.c1
  have HE : Hid (∀ V v, HasT Br Bl w V v t0 → Calls Tryz.prog 137 #[.agg #[.int .i64 k, .int .i64 s, .int .i64 arg, .slice q p.length c], v] V (fun e W => GivesI Kp (eachP k arg p t0) w e W)) :=
    fun V v hv => comes_each hKp h hv (Nat.le_trans h.l0 (by decide)) (fun c hc => (h.q0 c hc).1)
  have hlB := h.lB
  have HL : Hid (t0.length ≤ 400000 ∧ t1.length ≤ 400000) := ⟨h.l0, h.l1⟩
  clear h
  go_enter Tryz.func100, Tryz.ntmps100
  subst hk
  go_wp2
  refine gen_world (fun U => Below w.heap.size w U ∧ ∀ V, Below U.heap.size U V → V.cell? ⟨w.heap.size, 0, none⟩ = some (.int .i64 13) ∧ V.cell? ⟨w.heap.size, 1, none⟩ = some (.int .i64 s) ∧ V.cell? ⟨w.heap.size, 2, none⟩ = some (.int .i64 arg) ∧ V.cell? ⟨w.heap.size, 3, none⟩ = some (.slice q p.length c)) ⟨by go_grown, fun V hV => node_kept w _ _ _ _ V hV⟩ ?_
  rintro U ⟨hbU, hcU⟩
  have HBU := Lib.hid hbU
  have HCU := Lib.hid hcU
  obtain ⟨z0, z1, z2, z3⟩ := hcU _ (Below.refl _ _).drew
  clear hbU hcU
  go_region_law (first
    | (go_simp; go_at_call 138; (with_reducible refine Calls.mono (HC0.out _ HBU.out.drew) ?_); rintro e W1 ⟨v1, rfl, h1, hb1⟩; obtain ⟨y0, y1, y2, y3⟩ := HCU.out W1 (bcall (Below.refl _ _).drew hb1 (by simp)))
    | (go_simp; go_at_call 137; (with_reducible refine Calls.mono (HE.out _ _ h1) ?_); rintro e W2 ⟨gf, lb, rfl, hb2, hen, hit⟩))
  all_goals try simp only [List.getElem_toArray, List.getElem_cons_succ, List.getElem_cons_zero, Act.put, List.setIfInBounds_toArray, List.set_cons_zero, List.set_cons_succ]
  all_goals go_wp2
  all_goals go_returns
  all_goals exact ⟨gf, lb, rfl, hb2, hen, hit⟩
set_option maxRecDepth 100000 in
set_option maxHeartbeats 8000000 in
theorem comes_15 {Kp : World → World → Prop} {Br Bl : Nat} (hKp : ∀ A B, Kp A B → KpL Br Bl A B) (k s arg : Int) (q : Option Addr) (c : Nat) (p : List NV) (pp : Option Addr) (m cp : Nat) (t0 t1 : List IV) (w : World) (h : ComesA Br Bl k s arg q c p (.slice pp m cp) t0 t1 w) (hk : k = 15) :
    Calls Tryz.prog 100 #[.agg #[.int .i64 k, .int .i64 s, .int .i64 arg, .slice q p.length c], .slice pp m cp] w (GivesI Kp (eachP k arg p t0) w) := by
  have HC0 : Hid (∀ V, Below w.heap.size w V → Calls Tryz.prog 138 #[.slice pp m cp, .int .i64 0] V (fun e W => ∃ v, e = .returned v ∧ HasT Br Bl w W v t0 ∧ Below V.heap.size V W)) := h.c0
  have HC1 : Hid (∀ V, Below w.heap.size w V → Calls Tryz.prog 138 #[.slice pp m cp, .int .i64 1] V (fun e W => ∃ v, e = .returned v ∧ HasT Br Bl w W v t1 ∧ Below V.heap.size V W)) := h.c1
  have HE : Hid (∀ V v, HasT Br Bl w V v t0 → Calls Tryz.prog 137 #[.agg #[.int .i64 k, .int .i64 s, .int .i64 arg, .slice q p.length c], v] V (fun e W => GivesI Kp (eachP k arg p t0) w e W)) :=
    fun V v hv => comes_each hKp h hv (Nat.le_trans h.l0 (by decide)) (fun c hc => (h.q0 c hc).1)
  have hlB := h.lB
  have HL : Hid (t0.length ≤ 400000 ∧ t1.length ≤ 400000) := ⟨h.l0, h.l1⟩
  clear h
  go_enter Tryz.func100, Tryz.ntmps100
  subst hk
  go_wp2
  refine gen_world (fun U => Below w.heap.size w U ∧ ∀ V, Below U.heap.size U V → V.cell? ⟨w.heap.size, 0, none⟩ = some (.int .i64 15) ∧ V.cell? ⟨w.heap.size, 1, none⟩ = some (.int .i64 s) ∧ V.cell? ⟨w.heap.size, 2, none⟩ = some (.int .i64 arg) ∧ V.cell? ⟨w.heap.size, 3, none⟩ = some (.slice q p.length c)) ⟨by go_grown, fun V hV => node_kept w _ _ _ _ V hV⟩ ?_
  rintro U ⟨hbU, hcU⟩
  have HBU := Lib.hid hbU
  have HCU := Lib.hid hcU
  obtain ⟨z0, z1, z2, z3⟩ := hcU _ (Below.refl _ _).drew
  clear hbU hcU
  go_region_law (first
    | (go_simp; go_at_call 138; (with_reducible refine Calls.mono (HC0.out _ HBU.out.drew) ?_); rintro e W1 ⟨v1, rfl, h1, hb1⟩; obtain ⟨y0, y1, y2, y3⟩ := HCU.out W1 (bcall (Below.refl _ _).drew hb1 (by simp)))
    | (go_simp; go_at_call 137; (with_reducible refine Calls.mono (HE.out _ _ h1) ?_); rintro e W2 ⟨gf, lb, rfl, hb2, hen, hit⟩))
  all_goals try simp only [List.getElem_toArray, List.getElem_cons_succ, List.getElem_cons_zero, Act.put, List.setIfInBounds_toArray, List.set_cons_zero, List.set_cons_succ]
  all_goals go_wp2
  all_goals go_returns
  all_goals exact ⟨gf, lb, rfl, hb2, hen, hit⟩
set_option maxRecDepth 100000 in
set_option maxHeartbeats 8000000 in
theorem comes_6 {Kp : World → World → Prop} {Br Bl : Nat} (hKp : ∀ A B, Kp A B → KpL Br Bl A B) (k s arg : Int) (q : Option Addr) (c : Nat) (p : List NV) (pp : Option Addr) (m cp : Nat) (t0 t1 : List IV) (w : World) (h : ComesA Br Bl k s arg q c p (.slice pp m cp) t0 t1 w) (hk : k = 6) :
    Calls Tryz.prog 100 #[.agg #[.int .i64 k, .int .i64 s, .int .i64 arg, .slice q p.length c], .slice pp m cp] w (GivesI Kp (byKeysL k t0 []) w) := by
  have HC0 : Hid (∀ V, Below w.heap.size w V → Calls Tryz.prog 138 #[.slice pp m cp, .int .i64 0] V (fun e W => ∃ v, e = .returned v ∧ HasT Br Bl w W v t0 ∧ Below V.heap.size V W)) := h.c0
  have HC1 : Hid (∀ V, Below w.heap.size w V → Calls Tryz.prog 138 #[.slice pp m cp, .int .i64 1] V (fun e W => ∃ v, e = .returned v ∧ HasT Br Bl w W v t1 ∧ Below V.heap.size V W)) := h.c1
  have HK : Hid (∀ V va, HasT Br Bl w V va t0 → Calls Tryz.prog 139 #[.int .i64 k, va, .slice none 0 0] V (fun e W => GivesI Kp (byKeysL k t0 []) w e W)) :=
    fun V va ha => comes_keys hKp h ha (HasT.nil ha.b) (Nat.le_trans h.l0 (by decide)) (Nat.zero_le _) h.q0 (fun c hc => by cases hc)
  have hlB := h.lB
  have HL : Hid (t0.length ≤ 400000 ∧ t1.length ≤ 400000) := ⟨h.l0, h.l1⟩
  clear h
  go_enter Tryz.func100, Tryz.ntmps100
  subst hk
  go_wp2
  refine gen_world (fun U => Below w.heap.size w U ∧ ∀ V, Below U.heap.size U V → V.cell? ⟨w.heap.size, 0, none⟩ = some (.int .i64 6) ∧ V.cell? ⟨w.heap.size, 1, none⟩ = some (.int .i64 s) ∧ V.cell? ⟨w.heap.size, 2, none⟩ = some (.int .i64 arg) ∧ V.cell? ⟨w.heap.size, 3, none⟩ = some (.slice q p.length c)) ⟨by go_grown, fun V hV => node_kept w _ _ _ _ V hV⟩ ?_
  rintro U ⟨hbU, hcU⟩
  have HBU := Lib.hid hbU
  have HCU := Lib.hid hcU
  obtain ⟨z0, z1, z2, z3⟩ := hcU _ (Below.refl _ _).drew
  clear hbU hcU
  go_region_law (first
    | (go_simp; go_at_call 138; (with_reducible refine Calls.mono (HC0.out _ HBU.out.drew) ?_); rintro e W1 ⟨v1, rfl, h1, hb1⟩; obtain ⟨y0, y1, y2, y3⟩ := HCU.out W1 (bcall (Below.refl _ _).drew hb1 (by simp)))
    | (go_simp; go_at_call 139; (with_reducible refine Calls.mono (HK.out _ _ h1) ?_); rintro e W2 ⟨gf, lb, rfl, hb2, hen, hit⟩))
  all_goals try simp only [List.getElem_toArray, List.getElem_cons_succ, List.getElem_cons_zero, Act.put, List.setIfInBounds_toArray, List.set_cons_zero, List.set_cons_succ]
  all_goals go_wp2
  all_goals go_returns
  all_goals exact ⟨gf, lb, rfl, hb2, hen, hit⟩
set_option maxRecDepth 100000 in
set_option maxHeartbeats 8000000 in
theorem comes_7 {Kp : World → World → Prop} {Br Bl : Nat} (hKp : ∀ A B, Kp A B → KpL Br Bl A B) (k s arg : Int) (q : Option Addr) (c : Nat) (p : List NV) (pp : Option Addr) (m cp : Nat) (t0 t1 : List IV) (w : World) (h : ComesA Br Bl k s arg q c p (.slice pp m cp) t0 t1 w) (hk : k = 7) :
    Calls Tryz.prog 100 #[.agg #[.int .i64 k, .int .i64 s, .int .i64 arg, .slice q p.length c], .slice pp m cp] w (GivesI Kp (byKeysL k t0 []) w) := by
  have HC0 : Hid (∀ V, Below w.heap.size w V → Calls Tryz.prog 138 #[.slice pp m cp, .int .i64 0] V (fun e W => ∃ v, e = .returned v ∧ HasT Br Bl w W v t0 ∧ Below V.heap.size V W)) := h.c0
  have HC1 : Hid (∀ V, Below w.heap.size w V → Calls Tryz.prog 138 #[.slice pp m cp, .int .i64 1] V (fun e W => ∃ v, e = .returned v ∧ HasT Br Bl w W v t1 ∧ Below V.heap.size V W)) := h.c1
  have HK : Hid (∀ V va, HasT Br Bl w V va t0 → Calls Tryz.prog 139 #[.int .i64 k, va, .slice none 0 0] V (fun e W => GivesI Kp (byKeysL k t0 []) w e W)) :=
    fun V va ha => comes_keys hKp h ha (HasT.nil ha.b) (Nat.le_trans h.l0 (by decide)) (Nat.zero_le _) h.q0 (fun c hc => by cases hc)
  have hlB := h.lB
  have HL : Hid (t0.length ≤ 400000 ∧ t1.length ≤ 400000) := ⟨h.l0, h.l1⟩
  clear h
  go_enter Tryz.func100, Tryz.ntmps100
  subst hk
  go_wp2
  refine gen_world (fun U => Below w.heap.size w U ∧ ∀ V, Below U.heap.size U V → V.cell? ⟨w.heap.size, 0, none⟩ = some (.int .i64 7) ∧ V.cell? ⟨w.heap.size, 1, none⟩ = some (.int .i64 s) ∧ V.cell? ⟨w.heap.size, 2, none⟩ = some (.int .i64 arg) ∧ V.cell? ⟨w.heap.size, 3, none⟩ = some (.slice q p.length c)) ⟨by go_grown, fun V hV => node_kept w _ _ _ _ V hV⟩ ?_
  rintro U ⟨hbU, hcU⟩
  have HBU := Lib.hid hbU
  have HCU := Lib.hid hcU
  obtain ⟨z0, z1, z2, z3⟩ := hcU _ (Below.refl _ _).drew
  clear hbU hcU
  go_region_law (first
    | (go_simp; go_at_call 138; (with_reducible refine Calls.mono (HC0.out _ HBU.out.drew) ?_); rintro e W1 ⟨v1, rfl, h1, hb1⟩; obtain ⟨y0, y1, y2, y3⟩ := HCU.out W1 (bcall (Below.refl _ _).drew hb1 (by simp)))
    | (go_simp; go_at_call 139; (with_reducible refine Calls.mono (HK.out _ _ h1) ?_); rintro e W2 ⟨gf, lb, rfl, hb2, hen, hit⟩))
  all_goals try simp only [List.getElem_toArray, List.getElem_cons_succ, List.getElem_cons_zero, Act.put, List.setIfInBounds_toArray, List.set_cons_zero, List.set_cons_succ]
  all_goals go_wp2
  all_goals go_returns
  all_goals exact ⟨gf, lb, rfl, hb2, hen, hit⟩
set_option maxRecDepth 100000 in
set_option maxHeartbeats 8000000 in
theorem comes_9 {Kp : World → World → Prop} {Br Bl : Nat} (hKp : ∀ A B, Kp A B → KpL Br Bl A B) (k s arg : Int) (q : Option Addr) (c : Nat) (p : List NV) (pp : Option Addr) (m cp : Nat) (t0 t1 : List IV) (w : World) (h : ComesA Br Bl k s arg q c p (.slice pp m cp) t0 t1 w) (hk : k = 9) :
    Calls Tryz.prog 100 #[.agg #[.int .i64 k, .int .i64 s, .int .i64 arg, .slice q p.length c], .slice pp m cp] w (GivesI Kp (byKeysL k t0 t1) w) := by
  have HC0 : Hid (∀ V, Below w.heap.size w V → Calls Tryz.prog 138 #[.slice pp m cp, .int .i64 0] V (fun e W => ∃ v, e = .returned v ∧ HasT Br Bl w W v t0 ∧ Below V.heap.size V W)) := h.c0
  have HC1 : Hid (∀ V, Below w.heap.size w V → Calls Tryz.prog 138 #[.slice pp m cp, .int .i64 1] V (fun e W => ∃ v, e = .returned v ∧ HasT Br Bl w W v t1 ∧ Below V.heap.size V W)) := h.c1
  have HK : Hid (∀ V va vb, HasT Br Bl w V va t0 → HasT Br Bl w V vb t1 → Calls Tryz.prog 139 #[.int .i64 k, va, vb] V (fun e W => GivesI Kp (byKeysL k t0 t1) w e W)) :=
    fun V va vb ha hb => comes_keys hKp h ha hb (Nat.le_trans h.l0 (by decide)) (Nat.le_trans h.l1 (by decide)) h.q0 h.q1
  have hlB := h.lB
  have HL : Hid (t0.length ≤ 400000 ∧ t1.length ≤ 400000) := ⟨h.l0, h.l1⟩
  clear h
  go_enter Tryz.func100, Tryz.ntmps100
  subst hk
  go_wp2
  refine gen_world (fun U => Below w.heap.size w U ∧ ∀ V, Below U.heap.size U V → V.cell? ⟨w.heap.size, 0, none⟩ = some (.int .i64 9) ∧ V.cell? ⟨w.heap.size, 1, none⟩ = some (.int .i64 s) ∧ V.cell? ⟨w.heap.size, 2, none⟩ = some (.int .i64 arg) ∧ V.cell? ⟨w.heap.size, 3, none⟩ = some (.slice q p.length c)) ⟨by go_grown, fun V hV => node_kept w _ _ _ _ V hV⟩ ?_
  rintro U ⟨hbU, hcU⟩
  have HBU := Lib.hid hbU
  have HCU := Lib.hid hcU
  obtain ⟨z0, z1, z2, z3⟩ := hcU _ (Below.refl _ _).drew
  clear hbU hcU
  go_region_law (first
    | (go_simp; go_at_call 138; (with_reducible refine Calls.mono (HC0.out _ (bcall HBU.out hub HBU.out.size)) ?_); rintro e Wa ⟨va, rfl, ha, hba⟩; obtain ⟨pa, ca, rfl⟩ := (ha.h _ (KpL.refl _ _ _)).slice; have hua := bcall hub hba hub.size; have hAb := hb.below hba hlB; have hAa := ha; have huz := hua; obtain ⟨ya0, ya1, ya2, ya3⟩ := HCU.out Wa hua; obtain ⟨yz0, yz1, yz2, yz3⟩ := HCU.out (Wa.alloc (.cells #[.slice pa t0.length ca, .slice pb t1.length cb] 37)) (hua.alloc hua.size _))
    | (go_simp; go_at_call 138; (with_reducible refine Calls.mono (HC1.out _ (bcall HBU.out hua HBU.out.size)) ?_); rintro e Wb ⟨vb, rfl, hb, hbb⟩; obtain ⟨pb, cb, rfl⟩ := (hb.h _ (KpL.refl _ _ _)).slice; have hub := bcall hua hbb hua.size; have hAa := ha.below hbb hlB; have hAb := hb; have huz := hub; obtain ⟨yb0, yb1, yb2, yb3⟩ := HCU.out Wb hub; obtain ⟨yz0, yz1, yz2, yz3⟩ := HCU.out (Wb.alloc (.cells #[.slice pa t0.length ca, .slice pb t1.length cb] 37)) (hub.alloc hub.size _))
    | (go_simp; go_at_call 138; (with_reducible refine Calls.mono (HC0.out _ HBU.out.drew) ?_); rintro e Wa ⟨va, rfl, ha, hba⟩; obtain ⟨pa, ca, rfl⟩ := (ha.h _ (KpL.refl _ _ _)).slice; have hua := bcall (Below.refl U.heap.size U).drew hba (Nat.le_refl _); obtain ⟨ya0, ya1, ya2, ya3⟩ := HCU.out Wa hua)
    | (go_simp; go_at_call 138; (with_reducible refine Calls.mono (HC1.out _ HBU.out.drew) ?_); rintro e Wb ⟨vb, rfl, hb, hbb⟩; obtain ⟨pb, cb, rfl⟩ := (hb.h _ (KpL.refl _ _ _)).slice; have hub := bcall (Below.refl U.heap.size U).drew hbb (Nat.le_refl _); obtain ⟨yb0, yb1, yb2, yb3⟩ := HCU.out Wb hub)
    | (go_simp; go_at_call 139; (with_reducible refine Calls.mono (HK.out _ _ _ hAa hAb) ?_); rintro e W2 ⟨gf, lb, rfl, hb2, hen, hit⟩))
  all_goals try simp only [List.getElem_toArray, List.getElem_cons_succ, List.getElem_cons_zero, Act.put, List.setIfInBounds_toArray, List.set_cons_zero, List.set_cons_succ]
  all_goals go_wp2
  all_goals go_returns
  all_goals exact ⟨gf, lb, rfl, hb2, hen, hit⟩
set_option maxRecDepth 100000 in
set_option maxHeartbeats 8000000 in
theorem comes_14 {Kp : World → World → Prop} {Br Bl : Nat} (hKp : ∀ A B, Kp A B → KpL Br Bl A B) (k s arg : Int) (q : Option Addr) (c : Nat) (p : List NV) (pp : Option Addr) (m cp : Nat) (t0 t1 : List IV) (w : World) (h : ComesA Br Bl k s arg q c p (.slice pp m cp) t0 t1 w) (hk : k = 14) :
    Calls Tryz.prog 100 #[.agg #[.int .i64 k, .int .i64 s, .int .i64 arg, .slice q p.length c], .slice pp m cp] w (GivesI Kp (byKeysL k t0 t1) w) := by
  have HC0 : Hid (∀ V, Below w.heap.size w V → Calls Tryz.prog 138 #[.slice pp m cp, .int .i64 0] V (fun e W => ∃ v, e = .returned v ∧ HasT Br Bl w W v t0 ∧ Below V.heap.size V W)) := h.c0
  have HC1 : Hid (∀ V, Below w.heap.size w V → Calls Tryz.prog 138 #[.slice pp m cp, .int .i64 1] V (fun e W => ∃ v, e = .returned v ∧ HasT Br Bl w W v t1 ∧ Below V.heap.size V W)) := h.c1
  have HK : Hid (∀ V va vb, HasT Br Bl w V va t0 → HasT Br Bl w V vb t1 → Calls Tryz.prog 139 #[.int .i64 k, va, vb] V (fun e W => GivesI Kp (byKeysL k t0 t1) w e W)) :=
    fun V va vb ha hb => comes_keys hKp h ha hb (Nat.le_trans h.l0 (by decide)) (Nat.le_trans h.l1 (by decide)) h.q0 h.q1
  have hlB := h.lB
  have HL : Hid (t0.length ≤ 400000 ∧ t1.length ≤ 400000) := ⟨h.l0, h.l1⟩
  clear h
  go_enter Tryz.func100, Tryz.ntmps100
  subst hk
  go_wp2
  refine gen_world (fun U => Below w.heap.size w U ∧ ∀ V, Below U.heap.size U V → V.cell? ⟨w.heap.size, 0, none⟩ = some (.int .i64 14) ∧ V.cell? ⟨w.heap.size, 1, none⟩ = some (.int .i64 s) ∧ V.cell? ⟨w.heap.size, 2, none⟩ = some (.int .i64 arg) ∧ V.cell? ⟨w.heap.size, 3, none⟩ = some (.slice q p.length c)) ⟨by go_grown, fun V hV => node_kept w _ _ _ _ V hV⟩ ?_
  rintro U ⟨hbU, hcU⟩
  have HBU := Lib.hid hbU
  have HCU := Lib.hid hcU
  obtain ⟨z0, z1, z2, z3⟩ := hcU _ (Below.refl _ _).drew
  clear hbU hcU
  go_region_law (first
    | (go_simp; go_at_call 138; (with_reducible refine Calls.mono (HC0.out _ (bcall HBU.out hub HBU.out.size)) ?_); rintro e Wa ⟨va, rfl, ha, hba⟩; obtain ⟨pa, ca, rfl⟩ := (ha.h _ (KpL.refl _ _ _)).slice; have hua := bcall hub hba hub.size; have hAb := hb.below hba hlB; have hAa := ha; have huz := hua; obtain ⟨ya0, ya1, ya2, ya3⟩ := HCU.out Wa hua; obtain ⟨yz0, yz1, yz2, yz3⟩ := HCU.out (Wa.alloc (.cells #[.slice pa t0.length ca, .slice pb t1.length cb] 37)) (hua.alloc hua.size _))
    | (go_simp; go_at_call 138; (with_reducible refine Calls.mono (HC1.out _ (bcall HBU.out hua HBU.out.size)) ?_); rintro e Wb ⟨vb, rfl, hb, hbb⟩; obtain ⟨pb, cb, rfl⟩ := (hb.h _ (KpL.refl _ _ _)).slice; have hub := bcall hua hbb hua.size; have hAa := ha.below hbb hlB; have hAb := hb; have huz := hub; obtain ⟨yb0, yb1, yb2, yb3⟩ := HCU.out Wb hub; obtain ⟨yz0, yz1, yz2, yz3⟩ := HCU.out (Wb.alloc (.cells #[.slice pa t0.length ca, .slice pb t1.length cb] 37)) (hub.alloc hub.size _))
    | (go_simp; go_at_call 138; (with_reducible refine Calls.mono (HC0.out _ HBU.out.drew) ?_); rintro e Wa ⟨va, rfl, ha, hba⟩; obtain ⟨pa, ca, rfl⟩ := (ha.h _ (KpL.refl _ _ _)).slice; have hua := bcall (Below.refl U.heap.size U).drew hba (Nat.le_refl _); obtain ⟨ya0, ya1, ya2, ya3⟩ := HCU.out Wa hua)
    | (go_simp; go_at_call 138; (with_reducible refine Calls.mono (HC1.out _ HBU.out.drew) ?_); rintro e Wb ⟨vb, rfl, hb, hbb⟩; obtain ⟨pb, cb, rfl⟩ := (hb.h _ (KpL.refl _ _ _)).slice; have hub := bcall (Below.refl U.heap.size U).drew hbb (Nat.le_refl _); obtain ⟨yb0, yb1, yb2, yb3⟩ := HCU.out Wb hub)
    | (go_simp; go_at_call 139; (with_reducible refine Calls.mono (HK.out _ _ _ hAa hAb) ?_); rintro e W2 ⟨gf, lb, rfl, hb2, hen, hit⟩))
  all_goals try simp only [List.getElem_toArray, List.getElem_cons_succ, List.getElem_cons_zero, Act.put, List.setIfInBounds_toArray, List.set_cons_zero, List.set_cons_succ]
  all_goals go_wp2
  all_goals go_returns
  all_goals exact ⟨gf, lb, rfl, hb2, hen, hit⟩
set_option maxRecDepth 100000 in
set_option maxHeartbeats 8000000 in
theorem comes_other {Kp : World → World → Prop} {Br Bl : Nat} (hKp : ∀ A B, Kp A B → KpL Br Bl A B) (k s arg : Int) (q : Option Addr) (c : Nat) (p : List NV) (pp : Option Addr) (m cp : Nat) (t0 t1 : List IV) (w : World) (h : ComesA Br Bl k s arg q c p (.slice pp m cp) t0 t1 w) (hk : ¬ k = 1 ∧ ¬ k = 2 ∧ ¬ k = 3 ∧ ¬ k = 4 ∧ ¬ k = 5 ∧ ¬ k = 6 ∧ ¬ k = 7 ∧ ¬ k = 8 ∧ ¬ k = 9 ∧ ¬ k = 10 ∧ ¬ k = 11 ∧ ¬ k = 12 ∧ ¬ k = 13 ∧ ¬ k = 14 ∧ ¬ k = 15) :
    Calls Tryz.prog 100 #[.agg #[.int .i64 k, .int .i64 s, .int .i64 arg, .slice q p.length c], .slice pp m cp] w (GivesI Kp ([]) w) := by
  have HC0 : Hid (∀ V, Below w.heap.size w V → Calls Tryz.prog 138 #[.slice pp m cp, .int .i64 0] V (fun e W => ∃ v, e = .returned v ∧ HasT Br Bl w W v t0 ∧ Below V.heap.size V W)) := h.c0
  have HC1 : Hid (∀ V, Below w.heap.size w V → Calls Tryz.prog 138 #[.slice pp m cp, .int .i64 1] V (fun e W => ∃ v, e = .returned v ∧ HasT Br Bl w W v t1 ∧ Below V.heap.size V W)) := h.c1

  have hlB := h.lB
  have HL : Hid (t0.length ≤ 400000 ∧ t1.length ≤ 400000) := ⟨h.l0, h.l1⟩
  clear h
  go_enter Tryz.func100, Tryz.ntmps100
  obtain ⟨n1, n2, n3, n4, n5, n6, n7, n8, n9, n10, n11, n12, n13, n14, n15⟩ := hk
  go_wp2
  go_returns
  exact ⟨_, _, rfl, by go_grown, fun args W => enters_of Tryz.func140 (by kernel_rfl) rfl args W, comes1_iter Kp _⟩
set_option maxRecDepth 100000 in
set_option maxHeartbeats 8000000 in
theorem comes_5 {Kp : World → World → Prop} {Br Bl : Nat} (hKp : ∀ A B, Kp A B → KpL Br Bl A B) (k s arg : Int) (q : Option Addr) (c : Nat) (p : List NV) (pp : Option Addr) (m cp : Nat) (t0 t1 : List IV) (w : World) (h : ComesA Br Bl k s arg q c p (.slice pp m cp) t0 t1 w) (hk : k = 5) :
    Calls Tryz.prog 100 #[.agg #[.int .i64 k, .int .i64 s, .int .i64 arg, .slice q p.length c], .slice pp m cp] w (GivesI Kp (eachP k arg p (t0 ++ t1)) w) := by
  have HC0 : Hid (∀ V, Below w.heap.size w V → Calls Tryz.prog 138 #[.slice pp m cp, .int .i64 0] V (fun e W => ∃ v, e = .returned v ∧ HasT Br Bl w W v t0 ∧ Below V.heap.size V W)) := h.c0
  have HC1 : Hid (∀ V, Below w.heap.size w V → Calls Tryz.prog 138 #[.slice pp m cp, .int .i64 1] V (fun e W => ∃ v, e = .returned v ∧ HasT Br Bl w W v t1 ∧ Below V.heap.size V W)) := h.c1
  have HF : Hid (∀ V v, HasT Br Bl w V v (t0 ++ t1) → Calls Tryz.prog 137 #[.agg #[.int .i64 k, .int .i64 s, .int .i64 arg, .slice q p.length c], v] V (fun e W => GivesI Kp (eachP k arg p (t0 ++ t1)) w e W)) :=
    fun V v hv => comes_each hKp h hv (by rw [List.length_append]; have := h.l0; have := h.l1; omega) (fun c hc => by rcases List.mem_append.1 hc with hc | hc; exact (h.q0 c hc).1; exact (h.q1 c hc).1)
  have HLL : Hid (t0.length + t1.length ≤ 900000) := by have := h.l0; have := h.l1; show _ ≤ _; omega
  have HPT : Hid (Br < w.heap.size ∧ ∀ g, rowPtr w Bl = some g → g < w.heap.size) := ⟨h.rB, h.ptr⟩
  have hlB := h.lB
  have HL : Hid (t0.length ≤ 400000 ∧ t1.length ≤ 400000) := ⟨h.l0, h.l1⟩
  clear h
  go_enter Tryz.func100, Tryz.ntmps100
  subst hk
  go_wp2
  refine gen_world (fun U => Below w.heap.size w U ∧ ∀ V, Below U.heap.size U V → V.cell? ⟨w.heap.size, 0, none⟩ = some (.int .i64 5) ∧ V.cell? ⟨w.heap.size, 1, none⟩ = some (.int .i64 s) ∧ V.cell? ⟨w.heap.size, 2, none⟩ = some (.int .i64 arg) ∧ V.cell? ⟨w.heap.size, 3, none⟩ = some (.slice q p.length c)) ⟨by go_grown, fun V hV => node_kept w _ _ _ _ V hV⟩ ?_
  rintro U ⟨hbU, hcU⟩
  have HBU := Lib.hid hbU
  have HCU := Lib.hid hcU
  obtain ⟨z0, z1, z2, z3⟩ := hcU _ (Below.refl _ _).drew
  clear hbU hcU
  go_region_law (first
    | (go_simp; go_at_call 138; (with_reducible refine Calls.mono (HC0.out _ (bcall HBU.out hub HBU.out.size)) ?_); rintro e Wa ⟨va, rfl, ha, hba⟩; obtain ⟨pa, ca, rfl⟩ := (ha.h _ (KpL.refl _ _ _)).slice; have hua := bcall hub hba hub.size; have hAb := hb.below hba hlB; have hAa := ha; have huz := hua; obtain ⟨ya0, ya1, ya2, ya3⟩ := HCU.out Wa hua; obtain ⟨yz0, yz1, yz2, yz3⟩ := HCU.out (Wa.alloc (.cells #[.slice pa t0.length ca, .slice pb t1.length cb] 37)) (hua.alloc hua.size _))
    | (go_simp; go_at_call 138; (with_reducible refine Calls.mono (HC1.out _ (bcall HBU.out hua HBU.out.size)) ?_); rintro e Wb ⟨vb, rfl, hb, hbb⟩; obtain ⟨pb, cb, rfl⟩ := (hb.h _ (KpL.refl _ _ _)).slice; have hub := bcall hua hbb hua.size; have hAa := ha.below hbb hlB; have hAb := hb; have huz := hub; obtain ⟨yb0, yb1, yb2, yb3⟩ := HCU.out Wb hub; obtain ⟨yz0, yz1, yz2, yz3⟩ := HCU.out (Wb.alloc (.cells #[.slice pa t0.length ca, .slice pb t1.length cb] 37)) (hub.alloc hub.size _))
    | (go_simp; go_at_call 138; (with_reducible refine Calls.mono (HC0.out _ HBU.out.drew) ?_); rintro e Wa ⟨va, rfl, ha, hba⟩; obtain ⟨pa, ca, rfl⟩ := (ha.h _ (KpL.refl _ _ _)).slice; have hua := bcall (Below.refl U.heap.size U).drew hba (Nat.le_refl _); obtain ⟨ya0, ya1, ya2, ya3⟩ := HCU.out Wa hua)
    | (go_simp; go_at_call 138; (with_reducible refine Calls.mono (HC1.out _ HBU.out.drew) ?_); rintro e Wb ⟨vb, rfl, hb, hbb⟩; obtain ⟨pb, cb, rfl⟩ := (hb.h _ (KpL.refl _ _ _)).slice; have hub := bcall (Below.refl U.heap.size U).drew hbb (Nat.le_refl _); obtain ⟨yb0, yb1, yb2, yb3⟩ := HCU.out Wb hub)
    | (go_simp; go_at_call 111; (with_reducible refine Calls.mono (concat_gives hlB HPT.out.1 HPT.out.2 hAa hAb HLL.out) ?_); rintro e Wx ⟨vx, rfl, hX, hbx⟩; obtain ⟨yx0, yx1, yx2, yx3⟩ := HCU.out Wx (bcall (huz.alloc huz.size _) hbx (Nat.le_trans huz.size (by simp))))
    | (go_simp; go_at_call 137; (with_reducible refine Calls.mono (HF.out _ _ hX) ?_); rintro e W2 ⟨gf, lb, rfl, hb2, hen, hit⟩))
  all_goals try simp only [List.getElem_toArray, List.getElem_cons_succ, List.getElem_cons_zero, Act.put, List.setIfInBounds_toArray, List.set_cons_zero, List.set_cons_succ]
  all_goals go_wp2
  all_goals go_returns
  all_goals exact ⟨gf, lb, rfl, hb2, hen, hit⟩
theorem comes_any {Kp : World → World → Prop} {Br Bl : Nat} (hKp : ∀ A B, Kp A B → KpL Br Bl A B) (k s arg : Int) (q : Option Addr) (c : Nat) (p : List NV) (pp : Option Addr) (m cp : Nat) (t0 t1 : List IV) (w : World) (h : ComesA Br Bl k s arg q c p (.slice pp m cp) t0 t1 w) :
    Calls Tryz.prog 100 #[.agg #[.int .i64 k, .int .i64 s, .int .i64 arg, .slice q p.length c], .slice pp m cp] w (GivesI Kp (comesL k arg p t0 t1) w) := by
  by_cases e1 : k = 1
  · rw [show comesL k arg p t0 t1 = eachP k arg p t0 by subst e1; unfold comesL eachKind; simp]
    exact comes_1 hKp k s arg q c p pp m cp t0 t1 w h e1
  by_cases e2 : k = 2
  · rw [show comesL k arg p t0 t1 = eachP k arg p t0 by subst e2; unfold comesL eachKind; simp]
    exact comes_2 hKp k s arg q c p pp m cp t0 t1 w h e2
  by_cases e3 : k = 3
  · rw [show comesL k arg p t0 t1 = eachP k arg p t0 by subst e3; unfold comesL eachKind; simp]
    exact comes_3 hKp k s arg q c p pp m cp t0 t1 w h e3
  by_cases e4 : k = 4
  · rw [show comesL k arg p t0 t1 = eachP k arg p t0 by subst e4; unfold comesL eachKind; simp]
    exact comes_4 hKp k s arg q c p pp m cp t0 t1 w h e4
  by_cases e5 : k = 5
  · rw [show comesL k arg p t0 t1 = eachP k arg p (t0 ++ t1) by subst e5; unfold comesL eachKind; simp]
    exact comes_5 hKp k s arg q c p pp m cp t0 t1 w h e5
  by_cases e6 : k = 6
  · rw [show comesL k arg p t0 t1 = byKeysL k t0 [] by subst e6; unfold comesL eachKind; simp]
    exact comes_6 hKp k s arg q c p pp m cp t0 t1 w h e6
  by_cases e7 : k = 7
  · rw [show comesL k arg p t0 t1 = byKeysL k t0 [] by subst e7; unfold comesL eachKind; simp]
    exact comes_7 hKp k s arg q c p pp m cp t0 t1 w h e7
  by_cases e8 : k = 8
  · rw [show comesL k arg p t0 t1 = eachP k arg p t0 by subst e8; unfold comesL eachKind; simp]
    exact comes_8 hKp k s arg q c p pp m cp t0 t1 w h e8
  by_cases e9 : k = 9
  · rw [show comesL k arg p t0 t1 = byKeysL k t0 t1 by subst e9; unfold comesL eachKind; simp]
    exact comes_9 hKp k s arg q c p pp m cp t0 t1 w h e9
  by_cases e10 : k = 10
  · rw [show comesL k arg p t0 t1 = eachP k arg p t0 by subst e10; unfold comesL eachKind; simp]
    exact comes_10 hKp k s arg q c p pp m cp t0 t1 w h e10
  by_cases e11 : k = 11
  · rw [show comesL k arg p t0 t1 = eachP k arg p t0 by subst e11; unfold comesL eachKind; simp]
    exact comes_11 hKp k s arg q c p pp m cp t0 t1 w h e11
  by_cases e12 : k = 12
  · rw [show comesL k arg p t0 t1 = eachP k arg p t0 by subst e12; unfold comesL eachKind; simp]
    exact comes_12 hKp k s arg q c p pp m cp t0 t1 w h e12
  by_cases e13 : k = 13
  · rw [show comesL k arg p t0 t1 = eachP k arg p t0 by subst e13; unfold comesL eachKind; simp]
    exact comes_13 hKp k s arg q c p pp m cp t0 t1 w h e13
  by_cases e14 : k = 14
  · rw [show comesL k arg p t0 t1 = byKeysL k t0 t1 by subst e14; unfold comesL eachKind; simp]
    exact comes_14 hKp k s arg q c p pp m cp t0 t1 w h e14
  by_cases e15 : k = 15
  · rw [show comesL k arg p t0 t1 = eachP k arg p t0 by subst e15; unfold comesL eachKind; simp]
    exact comes_15 hKp k s arg q c p pp m cp t0 t1 w h e15
  rw [show comesL k arg p t0 t1 = [] by unfold comesL eachKind; simp [e1, e2, e3, e4, e5, e6, e7, e8, e9, e10, e11, e12, e13, e14, e15]]
  exact comes_other hKp k s arg q c p pp m cp t0 t1 w h ⟨e1, e2, e3, e4, e5, e6, e7, e8, e9, e10, e11, e12, e13, e14, e15⟩
end Go.Proofs.YthhceggcdaljdaaGreat
