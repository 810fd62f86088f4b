/- the program's Make, given what its ports are -/
import Derived.Test.YthhceggcdaljdaaGreatK21
import Derived.Test.YthhceggcdaljdaaGreatG12
import Derived.Deep.RegionHeldLaw
import Derived.Test.YthhceggcdaljdaaGreatG22
namespace Go.Proofs.YthhceggcdaljdaaGreat
open Go.RowKit
set_option linter.unusedVariables false
set_option linter.unusedSimpArgs false

/-- a box of a node -/
structure BN4 (w : World) (b : Nat) (k s arg : Int) (q : Option Addr) (n cc : Nat) : Prop where
  c0 : w.cell? ⟨b, 0, none⟩ = some (.int .i64 k)
  c1 : w.cell? ⟨b, 1, none⟩ = some (.int .i64 s)
  c2 : w.cell? ⟨b, 2, none⟩ = some (.int .i64 arg)
  c3 : w.cell? ⟨b, 3, none⟩ = some (.slice q n cc)
  l : b < w.heap.size
theorem BN4.below {w w' : World} {b : Nat} {k s arg : Int} {q : Option Addr} {n cc : Nat} (h : BN4 w b k s arg q n cc) (hb : Below w.heap.size w w') : BN4 w' b k s arg q n cc :=
  ⟨(hb.cell (p := ⟨b, 0, none⟩) h.l).trans h.c0, (hb.cell (p := ⟨b, 1, none⟩) h.l).trans h.c1, (hb.cell (p := ⟨b, 2, none⟩) h.l).trans h.c2, (hb.cell (p := ⟨b, 3, none⟩) h.l).trans h.c3, Nat.lt_of_lt_of_le h.l hb.size⟩
theorem BN4.new (w : World) (k s arg : Int) (q : Option Addr) (n cc : Nat) : BN4 (w.alloc (.cells #[.int .i64 k, .int .i64 s, .int .i64 arg, .slice q n cc] 47)) w.heap.size k s arg q n cc := ⟨by simp, by simp, by simp, by simp, by simp⟩
theorem nowO_len {kind arg : Int} {p : List NV} {a b : List IV} : (applyO kind arg p (thereI a) (thereI b)).1.length ≤ 65536 ∧ goodI (applyO kind arg p (thereI a) (thereI b)).1 := by
  have q := applyO_right (k := kind) (arg := arg) (p := p) (a := thereI a) (b := thereI b) (fun c hc => (there_mem c hc).2.1) (fun c hc => (there_mem c hc).2.1)
  have h1 := manyO_len q.2.1
  exact ⟨by have := q.2.2.1; omega, q.1⟩
theorem good_in64 {l : List IV} (h : goodI l) : in64 l := fun c hc => by
  have := (IV.ok_iff c).1 (h.1 c hc)
  omega
/-- a bag of the call's own, where a row of slots is changed -/
theorem bag_kept {B B2 : Nat} {w w' : World} {v u : Value} {xs : List SW} {l : List IV} (h : RI.Own B2 w u l) (ho : RSl.Own B w v xs) (hg : w.grownBy w' v.ownBlock) : RI.Own B2 w' u l := by
  obtain ⟨h1, h2 | ⟨g, cap, cur, e, hB, hgg, hc, hm, hs, ht⟩⟩ := h
  · exact ⟨h1, .inl h2⟩
  · have hne := own_ne ho (b := g) (.inr ⟨cur, hgg⟩)
    exact ⟨h1, .inr ⟨g, cap, cur, e, hB, (hg.block g (Array.getElem?_eq_some_iff.1 hgg).1 (fun q => hne q.symm)).trans hgg, hc, hm, hs, ht⟩⟩
/-- a slot is made anew in its place -/
theorem OwnC.setMade {B B2 : Nat} {w : World} {g n cap : Nat} {xs : List SW} {c : List SV} (h : OwnC B w (.slice (some ⟨g, 0, none⟩) n cap) xs c) {i : Nat} (hi : i < c.length) {p : Option Addr} {m cc : Nat} {l : List IV} (ho : RI.Own B2 w (.slice p m cc) l) :
    ∃ xs5, OwnC B (((w.setCell ⟨g, i * 10 + 7, none⟩ (.slice p m cc)).setCell ⟨g, i * 10 + 8, none⟩ (.bool false)).setCell ⟨g, i * 10 + 9, none⟩ (.bool true)) (.slice (some ⟨g, 0, none⟩) n cap) xs5 (c.set i (madeS c[i]! l)) ∧
      w.grownBy (((w.setCell ⟨g, i * 10 + 7, none⟩ (.slice p m cc)).setCell ⟨g, i * 10 + 8, none⟩ (.bool false)).setCell ⟨g, i * 10 + 9, none⟩ (.bool true)) (some g) := by
  have hl := h.len
  have hm : m = l.length := by obtain ⟨p', c', e⟩ := ho.is.slice; simp only [Value.slice.injEq] at e; exact e.2.1
  have hx := h.are.2 i hi
  have ha := h.off xs[i]! (by rw [getElem!_pos xs i (by omega)]; exact List.getElem_mem _)
  have hcap := ownCapI ho _ _ _ rfl
  generalize hx0 : xs[i]! = x at hx ha
  generalize c[i]! = b at hx ⊢
  have s1 := h.setOne (i := i) (j := 7) (o := i * 10 + 7) (by omega) (by decide) rfl (u := .slice p m cc) (x := ⟨x.t, x.p0, x.n0, x.c0, x.p1, x.n1, x.c1, p, m, cc, x.d, x.f⟩) (b := ⟨b.t, b.a, b.b, l, b.dirty, b.fired⟩) (by rw [hx0]; rfl) ⟨hx.t, hx.d, hx.f, hx.n0, hx.k0, hx.l0, hx.n1, hx.k1, hx.l1, hm, hcap, ho.is⟩ ⟨ha.p0, ha.p1, own_offK ho⟩
  obtain ⟨h1, g1⟩ := s1
  have hx1 := h1.are.2 i (by rw [List.length_set]; exact hi)
  have ha1 := h1.off _ (List.mem_set (by omega : i < xs.length) _)
  rw [getElem!_set_self _ _ _ (by omega), getElem!_set_self _ _ _ hi] at hx1
  have s2 := h1.setOne (i := i) (j := 8) (o := i * 10 + 8) (by rw [List.length_set]; omega) (by decide) rfl (u := .bool false) (x := ⟨x.t, x.p0, x.n0, x.c0, x.p1, x.n1, x.c1, p, m, cc, false, x.f⟩) (b := ⟨b.t, b.a, b.b, l, false, b.fired⟩) (by rw [getElem!_set_self _ _ _ (by omega)]; rfl) ⟨hx1.t, rfl, hx1.f, hx1.n0, hx1.k0, hx1.l0, hx1.n1, hx1.k1, hx1.l1, hx1.n2, hx1.k2, hx1.l2⟩ ⟨ha1.p0, ha1.p1, ha1.p2⟩
  obtain ⟨h2, g2⟩ := s2
  rw [List.set_set, List.set_set] at h2
  have hx2 := h2.are.2 i (by rw [List.length_set]; exact hi)
  have ha2 := h2.off _ (List.mem_set (by omega : i < xs.length) _)
  rw [getElem!_set_self _ _ _ (by omega), getElem!_set_self _ _ _ hi] at hx2
  have s3 := h2.setOne (i := i) (j := 9) (o := i * 10 + 9) (by rw [List.length_set]; omega) (by decide) rfl (u := .bool true) (x := ⟨x.t, x.p0, x.n0, x.c0, x.p1, x.n1, x.c1, p, m, cc, false, true⟩) (b := ⟨b.t, b.a, b.b, l, false, true⟩) (by rw [getElem!_set_self _ _ _ (by omega)]; rfl) ⟨hx2.t, hx2.d, rfl, hx2.n0, hx2.k0, hx2.l0, hx2.n1, hx2.k1, hx2.l1, hx2.n2, hx2.k2, hx2.l2⟩ ⟨ha2.p0, ha2.p1, ha2.p2⟩
  obtain ⟨h3, g3⟩ := s3
  rw [List.set_set, List.set_set] at h3
  exact ⟨_, h3, grown_tr (grown_tr g1 g2) g3⟩
set_option maxRecDepth 100000 in
set_option maxHeartbeats 32000000 in
theorem pmake_any (c : List SV) (v : Value) (kind s arg : Int) (q : Option Addr) (cc : Nat) (p : List NV) (t : TV) (lazy : Bool) (sec : SV → List IV) (w : World) (hs : SmallC 100000 c) (h : IsCl w v c) (hN : NodeA kind w q cc arg p)
    (HP0 : ∀ i : Nat, i < c.length → ∀ W, Below w.heap.size w W → Calls Tryz.prog 86 #[v, .int .i64 (i : Int), .int .i64 kind] W (PortsR (c[i]!).a (sec c[i]!) W)) :
    Calls Tryz.prog 45 #[v, .agg #[.int .i64 kind, .int .i64 s, .int .i64 arg, .slice q p.length cc], TV.val t, .bool lazy] w (MakeR c t kind arg p sec lazy w) := by
  have HP := Lib.hid HP0
  have HC := Lib.hid h
  have hNb := Lib.hid hN
  have HNo : Hid (∀ w' u, makeX c t kind arg p sec = none → IsCl w' u c → capOk u → Below w.heap.size w w' → MakeR c t kind arg p sec lazy w (.returned (.tuple #[u, .slice none 0 0, .slice none 0 0, .bool false])) w') := fun w' u h1 h2 h3 h4 => make_no h1 h2 h3 h4
  have HYes : Hid (∀ w' u a b x l d tg, makeX c t kind arg p sec = some x → l = (nowO kind arg p sec x).1 → d = makeL c t x l → tg = takeG x.s l lazy → IsCl w' u d → capOk u → RI.Own w.heap.size w' a tg.1 → RI.Own w.heap.size w' b tg.2 → Below w.heap.size w w' → MakeR c t kind arg p sec lazy w (.returned (.tuple #[u, a, b, .bool true])) w') := fun w' u a b x l d tg h1 h2 h3 h4 h5 h6 h7 h8 h9 => make_yes h1 h2 h3 h4 h5 h6 h7 h8 h9
  generalize MakeR c t kind arg p sec lazy w = R at HNo HYes ⊢
  obtain ⟨xs, hx0, hx1⟩ := h
  obtain ⟨pv, kv, rfl, ho⟩ := isOpenedD hx0
  have HAr := Lib.hid hx1
  have hxn : xs.length = c.length := hx1.1
  have hIs := hx0
  rw [hxn] at ho HP HC ⊢
  have HO := Lib.hid ho
  have hcl : c.length ≤ 100000 := hs.1
  have HSm := Lib.hid hs
  have hb0 := ((Below.refl w.heap.size w).alloc (Nat.le_refl _) (.cells #[.int .i64 kind, .int .i64 s, .int .i64 arg, .slice q p.length cc] 47)).alloc (by simp) (.cells #[.int .i64 t.d, .int .i64 t.c0, .int .i64 t.c1, .int .i64 t.c2, .int .i64 t.c3] 25)
  have hbn := (BN4.new w kind s arg q p.length cc).below ((Below.refl _ _).alloc (Nat.le_refl _) (.cells #[.int .i64 t.d, .int .i64 t.c0, .int .i64 t.c1, .int .i64 t.c2, .int .i64 t.c3] 25))
  have hbt := BT5.new (w.alloc (.cells #[.int .i64 kind, .int .i64 s, .int .i64 arg, .slice q p.length cc] 47)) t
  rw [World.size_alloc] at hbt
  generalize hpl : p.length = pl at *
  have HPl := Lib.hid hpl
  clear hx0 hx1 ho hxn hs hN HP0 hpl
  obtain ⟨td, t0, t1, t2, t3⟩ := t
  dsimp only at hb0 hbn hbt
  go_enter Tryz.func45, Tryz.ntmps45
  go_upto_region 1 with (fail)
  generalize (w.alloc (.cells #[.int .i64 kind, .int .i64 s, .int .i64 arg, .slice q pl cc] 47)).alloc (.cells #[.int .i64 td, .int .i64 t0, .int .i64 t1, .int .i64 t2, .int .i64 t3] 25) = w0 at *
  have HB0 := Lib.hid hb0
  have HC0 := Lib.hid (HC.out.below hb0)
  have HAr0 := Lib.hid (HAr.out.below hb0)
  have hI0 : RSl.Is w0 (.slice pv c.length kv) xs := by have := hIs.below hb0; rw [HAr.out.1] at this; exact this
  have HCl := Lib.hid (pcloneC_any xs _ w0 (by have := HAr.out.1; omega) hI0)
  have HBn := Lib.hid hbn
  have HBt := Lib.hid hbt
  have HbB : Hid (w.heap.size ≤ w0.heap.size) := hb0.size
  clear hb0 hbn hbt hI0 hIs
  generalize hbt0 : w.heap.size = bn at *
  have HW := Lib.hid hbt0
  generalize hB : w0.heap.size = B at *
  clear hbt0
  go_wp2_with fail
  refine (HCl.out).mono ?_
  rintro e w1 ⟨v1, rfl, hO1, hb1⟩
  have HB1 : Hid (Below B w0 w1) := hB ▸ hb1
  have HOC1 : Hid (OwnC B w1 v1 xs c) := hB ▸ OwnC.copy hO1 HAr0.out hb1
  have HF := Lib.hid (pfind_any c (.slice pv c.length kv) ⟨td, t0, t1, t2, t3⟩ w1 (by omega) (HC0.out.below hb1))
  obtain ⟨z0, z1, z2, z3, z4, zl⟩ := HBt.out.below hb1
  dsimp only at z0 z1 z2 z3 z4
  clear hO1 hb1 HCl HAr0
  go_wp2_with fail
  refine (HF.out).mono ?_
  rintro e w2 ⟨r, rfl, hr, hb2⟩
  have HB2 := Lib.hid (bcall HB1.out hb2 (hB ▸ HB1.out.size))
  have HOC2 := Lib.hid (HOC1.out.below hb2)
  clear hb2 HF HB1 HOC1 z0 z1 z2 z3 z4 zl
  rcases hr with ⟨rfl, hno⟩ | ⟨i, hi, rfl, hit, hlook⟩
  · have HX := Lib.hid (HNo.out w2 v1 (makeX_look hno) HOC2.out.is (ownCapC HOC2.out.own) (HB0.out.trans (HB2.out.mono HbB.out)))
    clear HNo HYes HP hno
    go_wp2
    first | exact HX.out | (go_returns; exact HX.out)
  · obtain ⟨b, off, rfl, hb, hrow⟩ := HO.out i hi
    have HBw : Hid (∀ W, Below B w0 W → Below bn w W) := fun W hW => HB0.out.trans (hW.mono HbB.out)
    have HRw : Hid (∀ W, Below bn w W → RSl.Row W b off xs) := fun W hW => hrow.below hW hb
    have hxl : xs.length = c.length := HAr.out.1
    obtain ⟨_, _, _, _, _, _, _, e7, e8, _⟩ := atSl (HRw.out w2 (HBw.out w2 HB2.out)) i (by omega)
    have hx := HAr.out.2 i hi
    have hq := HSm.out.2 _ (getElem!_memS hi)
    have HD := Lib.hid (fun hd => makeX_dirty (kind := kind) (arg := arg) (p := p) (sec := sec) hlook hd)
    have hic : (i : Int) < (c.length : Int) := by omega
    have hi0 : ¬ (i : Int) < 0 := by omega
    rw [hx.d] at e8
    have HRi := Lib.hid (prightC_any c (.slice (some ⟨b, off, none⟩) c.length kv) w2 (HSm.out.mono (by decide)) (HC0.out.below (hB.symm ▸ HB2.out)))
    have HRo := Lib.hid (fun h => makeX_right (c := c) (t := ⟨td, t0, t1, t2, t3⟩) (kind := kind) (arg := arg) (p := p) (sec := sec) h)
    have HGo : Hid (rightSl c = true → GoodSl c) := fun h => of_decide_eq_true h
    have HRoom := Lib.hid (fun hd => makeX_room (kind := kind) (arg := arg) (p := p) (sec := sec) hlook hd)
    have HOk := Lib.hid (fun h1 h2 h3 => makeX_yes (c := c) (kind := kind) (arg := arg) (p := p) (sec := sec) h1 hlook h2 h3)
    have HSt := Lib.hid (fun (h : GoodSl c) l => make_steps h hi hit l)
    have HPi := Lib.hid (HP.out i hi)
    have HSr : Hid (rightSl c = true → in64 (c[i]!).s) := fun h => good_in64 ((rightI_iff _).1 ((okS_iff _).1 ((HGo.out h).1 _ (getElem!_memS hi))).2.2.2.2)
    have HMade : Hid (∀ (W : World) (g cap B2 : Nat) (p : Option Addr) (m cc : Nat) (l : List IV), OwnC B W (.slice (some ⟨g, 0, none⟩) c.length cap) xs c → RI.Own B2 W (.slice p m cc) l → ∃ xs5, OwnC B (((W.setCell ⟨g, i * 10 + 7, none⟩ (.slice p m cc)).setCell ⟨g, i * 10 + 8, none⟩ (.bool false)).setCell ⟨g, i * 10 + 9, none⟩ (.bool true)) (.slice (some ⟨g, 0, none⟩) c.length cap) xs5 (c.set i (madeS c[i]! l)) ∧ W.grownBy (((W.setCell ⟨g, i * 10 + 7, none⟩ (.slice p m cc)).setCell ⟨g, i * 10 + 8, none⟩ (.bool false)).setCell ⟨g, i * 10 + 9, none⟩ (.bool true)) (some g)) := fun W g cap B2 p m cc l h1 h2 => h1.setMade hi h2
    have HXi := Lib.hid hx
    have HXs : Hid (∀ W, Below bn w W → W.cell? ⟨b, off + i * 10 + 7, none⟩ = some (.slice xs[i]!.p2 xs[i]!.n2 xs[i]!.c2)) := fun W hW => (atSl (HRw.out W hW) i (by rw [hxl]; exact hi)).2.2.2.2.2.2.2.1
    have HSl : Hid ((c[i]!).s.length ≤ 100000) := hq.2.2
    clear hx hq
    generalize hx0 : c[i]! = x0 at *
    generalize hxr : xs[i]! = xr at *
    obtain ⟨xrt, p0, n0', c0', p1, n1', c1', p2, n2', c2', xrd, xrf⟩ := xr
    dsimp only at e7 HXs
    clear hx0 hxr
    generalize hdd : x0.dirty = dd at *
    generalize hrr : rightSl c = rr at *
    clear hrow hb hlook HP hit
    cases dd
    · have HX := Lib.hid (HNo.out w2 v1 (HD.out (by trivial)) HOC2.out.is (ownCapC HOC2.out.own) (HBw.out _ HB2.out))
      clear HNo HYes HD HRo HRoom HOk HSt HPi HSr HRi hdd hrr HGo
      go_wp2
      first | exact HX.out | (go_returns; exact HX.out)
    · go_wp2_with fail
      refine (HRi.out).mono ?_
      rintro e w3 ⟨rfl, hb3⟩
      have HB3 := Lib.hid (bcall HB2.out hb3 (hB ▸ HB2.out.size))
      have HOC3 := Lib.hid (HOC2.out.below hb3)
      clear hb3 HRi HB2 HOC2 e7 e8 HD
      cases rr
      · have HX := Lib.hid (HNo.out w3 v1 (HRo.out (by trivial)) HOC3.out.is (ownCapC HOC3.out.own) (HBw.out _ HB3.out))
        clear HNo HYes HRo HRoom HOk HSt HPi HSr hdd hrr HGo
        go_wp2
        first | exact HX.out | (go_returns; exact HX.out)
      · have HGd := Lib.hid (HGo.out (by trivial))
        have HOk2 := Lib.hid (fun h3 => HOk.out (by trivial) (by trivial) h3)
        have HS64 := Lib.hid (HSr.out (by trivial))
        have HSt2 := Lib.hid (HSt.out HGd.out)
        clear HRo HOk HSr HSt HGo hdd hrr
        have hnl := @nowO_len kind arg p x0.a (sec x0)
        have HNl := Lib.hid hnl
        have HNow : Hid (nowO kind arg p sec x0 = applyO kind arg p (thereI x0.a) (thereI (sec x0))) := rfl
        have HKn : Hid (∀ W, Below w3.heap.size w3 W → BN4 W bn kind s arg q pl cc) := fun W hW => (HBn.out.below (hB.symm ▸ HB3.out)).below hW
        obtain ⟨n0, n1, n2, n3, nl⟩ := HKn.out w3 (Below.refl _ _)
        have HAp : Hid (∀ W g o cp va vb, Below bn w W → W.cell? ⟨g, o, none⟩ = some va → W.cell? ⟨g, o + 1, none⟩ = some vb → PortA W va x0.a → PortA W vb (sec x0) → Calls Tryz.prog 65 #[.agg #[.int .i64 kind, .int .i64 s, .int .i64 arg, .slice q pl cc], .slice (some ⟨g, o, none⟩) 2 cp] W (fun e W' => ∃ v, e = .returned (.tuple #[v, .bool (applyO kind arg p (thereI x0.a) (thereI (sec x0))).2]) ∧ RI.Own W.heap.size W' v (applyO kind arg p (thereI x0.a) (thereI (sec x0))).1 ∧ Below W.heap.size W W')) := fun W g o cp va vb hW h1 h2 h3 h4 => by
          have := apply_ports (s := s) (cp := cp) (hNb.out.below (HW.out.symm ▸ hW)) h3 h4 h1 h2
          rw [HPl.out] at this
          exact this
        have HB3w := Lib.hid (HBw.out w3 HB3.out)
        have HPq : Hid (∀ W, Below w3.heap.size w3 W → Calls Tryz.prog 86 #[.slice (some ⟨b, off, none⟩) c.length kv, .int .i64 (i : Int), .int .i64 kind] W (PortsR x0.a (sec x0) W)) := fun W hW => HPi.out W (HB3w.out.trans (hW.mono (HW.out ▸ HB3w.out.size)))
        generalize applyO kind arg p (thereI x0.a) (thereI (sec x0)) = ap at *
        obtain ⟨al, aok⟩ := ap
        dsimp only at hnl
        clear hnl HPi
        go_upto_region 5 with (fail)
        go_region_held_law (fun W => W.cell? ⟨bn, 0, none⟩ = some (.int .i64 kind) ∧ W.cell? ⟨bn, 1, none⟩ = some (.int .i64 s) ∧ W.cell? ⟨bn, 2, none⟩ = some (.int .i64 arg) ∧ W.cell? ⟨bn, 3, none⟩ = some (.slice q pl cc)) (first | (with_reducible exact ⟨(HKn.out _ (by assumption)).c0, (HKn.out _ (by assumption)).c1, (HKn.out _ (by assumption)).c2, (HKn.out _ (by assumption)).c3⟩) | go_keep) (first
          | (go_at_call 86; refine (HPq.out _ (by repeat' (first | exact Below.refl _ _ | apply Below.drew | apply below_drewN))).mono ?_; rintro e wa ⟨pg, po, pc, pva, pvb, rfl, hpa, hpb, hqa, hqb, hBa⟩; have hB1 : Below w3.heap.size w3 wa := bcall (by repeat' (first | exact Below.refl _ _ | apply Below.drew | apply below_drewN)) hBa (Nat.le_refl _))
          | (go_at_call 65; refine (HAp.out _ _ _ _ _ _ (HB3w.out.trans (hB1.mono (HW.out ▸ HB3w.out.size))) hpa hpb hqa hqb).mono ?_; rintro e wb ⟨vs, rfl, hOs, hBb⟩; have hB2 : Below w3.heap.size w3 wb := bcall hB1 hBb hB1.size))
        all_goals
          try simp only [List.getElem_toArray, List.getElem_cons_succ, List.getElem_cons_zero, Act.put, List.setIfInBounds_toArray, List.set_cons_zero, List.set_cons_succ]
          have HB5 := Lib.hid (HB3.out.trans (hB2.mono (hB ▸ HB3.out.size)))
          have HOC5 := Lib.hid (HOC3.out.below hB2)
          obtain ⟨ps, cs, rfl⟩ := hOs.is.slice
          have HOs := Lib.hid hOs
          have HAl := Lib.hid (HNl.out)
          clear hpa hpb hqa hqb hBa hB1 hOs hBb hB2 n0 n1 n2 n3 nl HKn HAp HPq HNl HOC3
          cases aok
          · have HX := Lib.hid (HNo.out wb v1 (HRoom.out (by rw [HNow.out])) HOC5.out.is (ownCapC HOC5.out.own) (HBw.out _ HB5.out))
            clear HNo HYes HRoom HOk2 HSt2 HMade
            go_wp2
            first | exact HX.out | (go_returns; exact HX.out)
          · have HMk := Lib.hid (HOk2.out (by rw [HNow.out]))
            clear HNo HRoom HOk2
            obtain ⟨g, cap, rfl, hBg, hgl, hfr, hcells⟩ := HOC5.out.row (by omega)
            obtain ⟨_, _, _, _, _, _, _, y7, y8, y9⟩ := hcells i (by omega)
            have f7 : wb.frozen? ⟨g, i * 10 + 7, none⟩ = false := hfr _
            have f8 : wb.frozen? ⟨g, i * 10 + 8, none⟩ = false := hfr _
            have f9 : wb.frozen? ⟨g, i * 10 + 9, none⟩ = false := hfr _
            rw [hxl] at HOC5 ⊢
            obtain ⟨xs5, hO5, hG5⟩ := HMade.out wb g cap _ ps _ cs al HOC5.out HOs.out
            have hb5 := below_grownC HB5.out (hB ▸ HB5.out.size) hG5 (fun k e => by cases e; exact hBg)
            have HIs5 : Hid (RI.Is (((wb.setCell ⟨g, i * 10 + 7, none⟩ (.slice ps al.length cs)).setCell ⟨g, i * 10 + 8, none⟩ (.bool false)).setCell ⟨g, i * 10 + 9, none⟩ (.bool true)) (.slice ps al.length cs) al) := (bag_kept HOs.out HOC5.out.own hG5).is
            have HCp := Lib.hid (ownCapI HOs.out)
            have HG := Lib.hid hBg
            clear hfr hcells HMade HOs hG5 hgl hBg
            go_upto_region 9 with (fail)
            refine gen_world (fun W => OwnC B W (.slice (some ⟨g, 0, none⟩) c.length cap) xs5 (c.set i (madeS x0 al)) ∧ Below B w0 W ∧ RI.Is W (.slice ps al.length cs) al) ⟨hO5, hb5, HIs5.out⟩ ?_
            rintro w5 ⟨hO5, hb5, hI5⟩
            have HO5 := Lib.hid hO5
            have HB5 := Lib.hid hb5
            have hw5 := HBw.out w5 hb5
            have y7 := HXs.out w5 hw5
            have hw5s : w.heap.size = bn := HW.out
            have hxw := HXi.out.below (hw5s.symm ▸ hw5)
            have HCh := Lib.hid (pchanges_any x0.s al _ (.slice ps al.length cs) lazy w5 (by have := HSl.out; omega) (by have := HAl.out.1; omega) HS64.out (good_in64 HAl.out.2) (fun p m cc e => by cases e; exact hxw.k2) HCp.out hxw.l2 hI5)
            have HWo0 := Lib.hid (fun W (hW : Below w5.heap.size w5 W) => pwithout_any xs5 _ _ i B W (HO5.out.below hW) (by rw [List.length_set]; exact hi) (by rw [List.length_set]; omega) (Nat.le_trans (hB ▸ HB5.out.size) hW.size))
            rw [HSt2.out] at HWo0
            clear hO5 hb5 hI5 hw5 hxw hw5s f7 f8 f9 y8 y9 HIs5
            go_wp2_with fail
            refine (HCh.out).mono ?_
            rintro e w6 ⟨u1, u2, rfl, ho1, ho2, hb6⟩
            have HB6 := Lib.hid (HB5.out.trans (hb6.mono (hB ▸ HB5.out.size)))
            have HO6 := Lib.hid (HO5.out.below hb6)
            have HWo := Lib.hid (HWo0.out w6 hb6)
            have HU1 := Lib.hid (ho1.mono (hB ▸ HB5.out.size : B ≤ _))
            have HU2 := Lib.hid (ho2.mono (hB ▸ HB5.out.size : B ≤ _))
            clear hb6 ho1 ho2 HCh HWo0 y7
            go_wp2_with fail
            refine (HWo.out).mono ?_
            rintro e w7 ⟨v7, xs7, rfl, hO7, hG7⟩
            have HB7 := below_grownC HB6.out (hB ▸ HB6.out.size) hG7 (fun k e => (HO6.out.own.lt k e).1)
            have hu1 := (bag_kept HU1.out HO6.out.own hG7).mono HbB.out
            have hu2 := (bag_kept HU2.out HO6.out.own hG7).mono HbB.out
            have HX := Lib.hid (HYes.out w7 v7 u1 u2 x0 al _ _ HMk.out (by rw [HNow.out]) rfl rfl hO7.is (ownCapC hO7.own) (HW.out ▸ hu1) (HW.out ▸ hu2) (HBw.out _ HB7))
            clear hO7 hG7 HB7 HWo HYes hu1 hu2
            go_wp2
            first | exact HX.out | (go_returns; exact HX.out)
end Go.Proofs.YthhceggcdaljdaaGreat
/- the law's awake -/
namespace Go.Proofs.YthhceggcdaljdaaGreat
open Go.RowKit
set_option linter.unusedVariables false
set_option linter.unusedSimpArgs false

def awT : TV := ⟨1, 0, 0, 0, 0⟩
def awX : SV → List IV := fun x => x.b
def awC2 : List SV := [⟨awT, [⟨⟨1, 2⟩, 1⟩], [], [⟨⟨1, 2⟩, 1⟩], false, true⟩]
def awC3 : List SV := [⟨awT, [⟨⟨1, 2⟩, 1⟩, ⟨⟨1, 3⟩, 1⟩], [], [⟨⟨1, 2⟩, 1⟩], true, true⟩]
def awC1 : List SV := [⟨awT, [⟨⟨1, 2⟩, 1⟩], [], [], true, false⟩]
theorem aw1 : comeOk [] 0 awT 1 = true ∧ comeF [] 6 0 awT ⟨1, 2⟩ 1 = awC1 := ⟨by kernel_rfl, by kernel_rfl⟩
theorem aw2 : (makeX awC1 awT 6 0 [] awX).isSome = true ∧ makeF awC1 awT 6 0 [] awX true = (awC2, ([], [⟨⟨1, 2⟩, 1⟩])) := ⟨by kernel_rfl, by kernel_rfl⟩
theorem aw3 : comeOk awC2 0 awT 1 = true ∧ comeF awC2 6 0 awT ⟨1, 3⟩ 1 = awC3 ∧ lateS awC2 6 0 awT 1 = true := ⟨by kernel_rfl, by kernel_rfl, by kernel_rfl⟩
theorem aw4 : (makeX awC3 awT 6 0 [] awX).isSome = true ∧ (makeF awC3 awT 6 0 [] awX true).2 = ([⟨⟨1, 2⟩, 1⟩], [⟨⟨1, 5⟩, 1⟩]) := ⟨by kernel_rfl, by kernel_rfl⟩
theorem aw_small1 : SmallC 100000 awC1 := ⟨by decide, fun x hx => by rw [List.mem_singleton.1 hx]; decide⟩
theorem aw_small2 : SmallC 100000 awC2 := ⟨by decide, fun x hx => by rw [List.mem_singleton.1 hx]; decide⟩
theorem aw_small3 : SmallC 100000 awC3 := ⟨by decide, fun x hx => by rw [List.mem_singleton.1 hx]; decide⟩
theorem aw_in1 : inCell awC1 := fun x hx => by rw [List.mem_singleton.1 hx]; exact ⟨fun i hi => by rw [List.mem_singleton.1 hi]; decide, fun i hi => by cases hi⟩
theorem aw_in3 : inCell awC3 := fun x hx => by
  rw [List.mem_singleton.1 hx]
  refine ⟨fun i hi => ?_, fun i hi => by cases hi⟩
  rcases List.mem_cons.1 hi with rfl | hi
  · decide
  · rw [List.mem_singleton.1 hi]; decide
theorem aw_node (w : World) : NodeA 6 w none 0 0 [] := ⟨RowKind.Is.nil _, fun h => (by cases h), fun x hx => (by cases hx), by decide⟩
theorem aw_make (c : List SV) (v : Value) (w : World) (hs : SmallC 100000 c) (hin : inCell c) (h : IsCl w v c) : Calls Tryz.prog 45 #[v, .agg #[.int .i64 6, .int .i64 0, .int .i64 0, .slice none 0 0], TV.val awT, .bool true] w (MakeR c awT 6 0 [] awX true w) :=
  pmake_any c v 6 0 0 none 0 [] awT true awX w hs h (aw_node w) fun i hi W hW => pports_one c v i 6 W hs (h.below hW) hi hin (by decide)
set_option maxRecDepth 100000 in
set_option maxHeartbeats 16000000 in
theorem cawake_any (w : World) : Calls Tryz.prog 8 #[] w (Ret (.bool true) w) := by
  have H1 := Lib.hid (fun W => pcome_any [] (.slice none 0 0) 6 0 awT ⟨1, 2⟩ 1 W ⟨Nat.zero_le _, fun x hx => by cases hx⟩ (IsCl.nil W))
  have H2 := Lib.hid (fun W v h => aw_make awC1 v W aw_small1 aw_in1 h)
  have H3 := Lib.hid (fun W v h => pcome_any awC2 v 6 0 awT ⟨1, 3⟩ 1 W aw_small2 h)
  have H4 := Lib.hid (fun W v h => aw_make awC3 v W aw_small3 aw_in3 h)
  have hb0 := ((Below.refl w.heap.size w).alloc (Nat.le_refl _) (.cells #[.int .i64 1, .int .i64 0, .int .i64 0, .int .i64 0, .int .i64 0] 25)).alloc (by simp) (.cells #[.int .i64 6, .int .i64 0, .int .i64 0, .slice none 0 0] 47)
  have hbt := (BT5.new w awT).more (.cells #[.int .i64 6, .int .i64 0, .int .i64 0, .slice none 0 0] 47)
  have hbn := BN4.new (w.alloc (.cells #[.int .i64 1, .int .i64 0, .int .i64 0, .int .i64 0, .int .i64 0] 25)) 6 0 0 none 0 0
  rw [World.size_alloc] at hbn
  go_enter Tryz.func8, Tryz.ntmps8
  go_upto_region 3 with (fail)
  refine gen_world (fun W => Below w.heap.size w W ∧ BT5 W w.heap.size awT ∧ BN4 W (w.heap.size + 1) 6 0 0 none 0 0) ⟨hb0, hbt, hbn⟩ ?_
  rintro w0 ⟨hb0, hbt, hbn⟩
  have HB0 := Lib.hid hb0
  have HT0 := Lib.hid hbt
  have HN0 := Lib.hid hbn
  obtain ⟨t0, t1, t2, t3, t4, tl⟩ := hbt
  obtain ⟨n0, n1, n2, n3, nl⟩ := hbn
  dsimp only [awT] at t0 t1 t2 t3 t4
  clear hb0 
  generalize hbt0 : w.heap.size = bt at *
  have HW := Lib.hid hbt0
  clear hbt0
  go_wp2_with fail
  refine (H1.out _).mono ?_
  rintro e w1 ⟨v1, rfl, hi1, hc1, hb1⟩
  rw [aw1.2] at hi1
  rw [lateS_is, aw1.1]
  have HI1 := Lib.hid hi1
  have HT1 := Lib.hid (HT0.out.below hb1)
  have HN1 := Lib.hid (HN0.out.below hb1)
  have HB1 := Lib.hid (HB0.out.trans (hb1.mono (Nat.le_of_lt HT0.out.l)))
  have HZ1 : Hid (bt < w1.heap.size) := HT1.out.l
  have HM2 := Lib.hid (H2.out w1 v1 HI1.out)
  clear hb1 hi1 hc1 H1 H2 HT0 HN0 HB0 t0 t1 t2 t3 t4 tl n0 n1 n2 n3 nl
  obtain ⟨t0, t1, t2, t3, t4, tl⟩ := HT1.out
  obtain ⟨n0, n1, n2, n3, nl⟩ := HN1.out
  dsimp only [awT] at t0 t1 t2 t3 t4
  go_wp2_with fail
  refine (HM2.out).mono ?_
  rintro e w2 ⟨v2, a2, b2, rfl, hi2, hc2, ha2, hd2, hb2⟩
  rw [aw2.2] at hi2 ha2 hd2
  rw [aw2.1]
  dsimp only at hi2 ha2 hd2
  have HI2 := Lib.hid hi2
  have HT2 := Lib.hid (HT1.out.below hb2)
  have HN2 := Lib.hid (HN1.out.below hb2)
  have HB2 := Lib.hid (HB1.out.trans (hb2.mono (Nat.le_of_lt HT1.out.l)))
  have HC3 := Lib.hid (H3.out w2 v2 HI2.out)
  obtain ⟨pa, ca, rfl⟩ := ha2.is.slice
  obtain ⟨pb, cb, rfl⟩ := hd2.is.slice
  clear hb2 hi2 hc2 ha2 hd2 H3 HM2 HT1 HN1 HB1 t0 t1 t2 t3 t4 tl n0 n1 n2 n3 nl HI1
  obtain ⟨t0, t1, t2, t3, t4, tl⟩ := HT2.out
  obtain ⟨n0, n1, n2, n3, nl⟩ := HN2.out
  dsimp only [awT] at t0 t1 t2 t3 t4
  go_wp2_with fail
  refine (HC3.out).mono ?_
  rintro e w3 ⟨v3, rfl, hi3, hc3, hb3⟩
  rw [aw3.2.1] at hi3
  rw [aw3.2.2, aw3.1]
  have HI3 := Lib.hid hi3
  have HT3 := Lib.hid (HT2.out.below hb3)
  have HN3 := Lib.hid (HN2.out.below hb3)
  have HB3 := Lib.hid (HB2.out.trans (hb3.mono (Nat.le_of_lt HT2.out.l)))
  have HM4 := Lib.hid (H4.out w3 v3 HI3.out)
  clear hb3 hi3 hc3 H4 HC3 HT2 HN2 HB2 t0 t1 t2 t3 t4 tl n0 n1 n2 n3 nl HI2
  obtain ⟨t0, t1, t2, t3, t4, tl⟩ := HT3.out
  obtain ⟨n0, n1, n2, n3, nl⟩ := HN3.out
  dsimp only [awT] at t0 t1 t2 t3 t4
  go_wp2_with fail
  refine (HM4.out).mono ?_
  rintro e w4 ⟨v4, a4, b4, rfl, hi4, hc4, ha4, hd4, hb4⟩
  rw [aw4.2] at ha4 hd4
  rw [aw4.1]
  dsimp only at ha4 hd4
  have HB4 := Lib.hid (HB3.out.trans (hb4.mono (Nat.le_of_lt HT3.out.l)))
  obtain ⟨pc, cc, rfl⟩ := ha4.is.slice
  obtain ⟨pd, cd, rfl, ho⟩ := isOpenedD hd4.is
  obtain ⟨g, o, rfl, hg, hrow⟩ := ho 0 (by decide)
  have c1 : w4.cell? ⟨g, o + 1, none⟩ = some (.int .i64 5) := by
    have := hrow 0 (by decide) 1 _ rfl
    simpa using this
  clear hi4 hc4 ha4 hd4 hb4 ho hrow HM4 HT3 HN3 HB3 t0 t1 t2 t3 t4 tl n0 n1 n2 n3 nl HI3
  go_wp2
  go_returns
  exact ⟨rfl, by rw [HW.out]; exact HB4.out⟩
end Go.Proofs.YthhceggcdaljdaaGreat
