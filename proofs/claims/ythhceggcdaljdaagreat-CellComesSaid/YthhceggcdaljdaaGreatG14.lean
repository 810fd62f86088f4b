/- the program's: the slots that hang on what came are dirty -/
import Derived.Test.YthhceggcdaljdaaGreatG13
import Derived.Test.YthhceggcdaljdaaGreatG02
import Derived.Shelf.Spec.SlicesGrow
namespace Go.Proofs.YthhceggcdaljdaaGreat
open Go.RowKit
set_option linter.unusedVariables false
set_option linter.unusedSimpArgs false

def SoilR (B : Nat) (w : World) (v : Value) (c : List SV) (kind : Int) (t : TV) (e : Ending) (w' : World) : Prop := ∃ xs', e = .returned (.bool (lateL kind t c)) ∧ OwnC B w' v xs' (c.map (soilS kind t)) ∧ w.grownBy w' v.ownBlock
/-- the first k are soiled -/
structure SoilK (c : List SV) (kind : Int) (t : TV) (k : Nat) (d : List SV) : Prop where
  len : d.length = c.length
  lo : ∀ j, j < k → d[j]! = soilS kind t c[j]!
  hi : ∀ j, k ≤ j → j < c.length → d[j]! = c[j]!
theorem getElem!_set_self {α : Type} [Inhabited α] (l : List α) (i : Nat) (x : α) (h : i < l.length) : (l.set i x)[i]! = x := by
  rw [getElem!_pos (l.set i x) i (by rw [List.length_set]; exact h), List.getElem_set_self]
theorem getElem!_set_ne {α : Type} [Inhabited α] (l : List α) (i j : Nat) (x : α) (h : i ≠ j) (hj : j < l.length) : (l.set i x)[j]! = l[j]! := by
  rw [getElem!_pos (l.set i x) j (by rw [List.length_set]; exact hj), List.getElem_set_ne h, ← getElem!_pos l j hj]
theorem SoilK.yes {c : List SV} {kind : Int} {t : TV} {k : Nat} {d : List SV} (h : SoilK c kind t k d) (hk : k < c.length) : SoilK c kind t (k + 1) (d.set k (soilS kind t c[k]!)) :=
  ⟨by rw [List.length_set]; exact h.len, fun j hj => by
    by_cases e : k = j
    · subst e; exact getElem!_set_self _ _ _ (by rw [h.len]; exact hk)
    · rw [getElem!_set_ne _ _ _ _ e (by rw [h.len]; omega)]; exact h.lo j (by omega), fun j hj hl => by
    rw [getElem!_set_ne _ _ _ _ (by omega) (by rw [h.len]; exact hl)]; exact h.hi j (by omega) hl⟩
theorem soil_no {kind : Int} {t : TV} {x : SV} (h : hangs kind t x = false) : soilS kind t x = x := by
  unfold soilS
  rw [h, Bool.or_false]
theorem soil_yes {kind : Int} {t : TV} {x : SV} (h : hangs kind t x = true) : soilS kind t x = ⟨x.t, x.a, x.b, x.s, true, x.fired⟩ := by
  unfold soilS
  rw [h, Bool.or_true]
theorem SoilK.no {c : List SV} {kind : Int} {t : TV} {k : Nat} {d : List SV} (h : SoilK c kind t k d) (hk : k < c.length) (hn : hangs kind t c[k]! = false) : SoilK c kind t (k + 1) d :=
  ⟨h.len, fun j hj => by
    by_cases e : j = k
    · subst e; rw [h.hi j (Nat.le_refl _) hk, soil_no hn]
    · exact h.lo j (by omega), fun j hj hl => h.hi j (by omega) hl⟩
theorem SoilK.done {c : List SV} {kind : Int} {t : TV} {d : List SV} (h : SoilK c kind t c.length d) : d = c.map (soilS kind t) := by
  refine List.ext_getElem (by rw [List.length_map]; exact h.len) fun j h1 h2 => ?_
  have := h.lo j (by rw [← h.len]; exact h1)
  rw [getElem!_pos d j h1, getElem!_pos c j (by rw [← h.len]; exact h1)] at this
  rw [this, List.getElem_map]
theorem SoilK.start (c : List SV) (kind : Int) (t : TV) : SoilK c kind t 0 c := ⟨rfl, fun j hj => absurd hj (Nat.not_lt_zero j), fun _ _ _ => rfl⟩
theorem late_succ (kind : Int) (t : TV) (c : List SV) (k : Nat) (hk : k < c.length) : lateL kind t (c.take (k + 1)) = (lateL kind t (c.take k) || ((c[k]!).fired && !(c[k]!).dirty && hangs kind t c[k]!)) := by
  unfold lateL
  rw [take_getA c k hk, List.any_append, List.any_cons, List.any_nil, Bool.or_false]
theorem BT5.grown {w w' : World} {b : Nat} {t : TV} {r : Option Nat} (h : BT5 w b t) (hg : w.grownBy w' r) (hn : r ≠ some b) : BT5 w' b t := by
  have hb := hg.block b h.l (fun e => hn e.symm)
  exact ⟨(World.cell?_of_block (a := ⟨b, 0, none⟩) hb).trans h.c0, (World.cell?_of_block (a := ⟨b, 1, none⟩) hb).trans h.c1, (World.cell?_of_block (a := ⟨b, 2, none⟩) hb).trans h.c2, (World.cell?_of_block (a := ⟨b, 3, none⟩) hb).trans h.c3, (World.cell?_of_block (a := ⟨b, 4, none⟩) hb).trans h.c4, Nat.lt_of_lt_of_le h.l hg.size⟩
attribute [local go_sem ↓] eqTime neTime
set_option maxRecDepth 100000 in
set_option maxHeartbeats 16000000 in
theorem psoil_any (xs : List SW) (c : List SV) (v : Value) (kind : Int) (t : TV) (B : Nat) (w : World) (h : OwnC B w v xs c) (hl : c.length ≤ 800000) (hB : B ≤ w.heap.size) : Calls Tryz.prog 50 #[v, .int .i64 kind, TV.val t] w (SoilR B w v c kind t) := by
  have hlen := h.len
  have hsl : ∃ p k, v = .slice p c.length k := by obtain ⟨p, k, e⟩ := h.own.is.slice; exact ⟨p, k, by rw [← hlen]; exact e⟩
  have HOwb : Hid (v.ownBlock ≠ some w.heap.size) := fun e => by have := (h.own.lt _ e).2; omega
  have hbx := BT5.new w t
  have hb0 := (Below.refl w.heap.size w).alloc (Nat.le_refl _) (.cells #[.int .i64 t.d, .int .i64 t.c0, .int .i64 t.c1, .int .i64 t.c2, .int .i64 t.c3] 25)
  have HO0 := Lib.hid (h.below hb0)
  have HL := Lib.hid (fun (u : TV) W => tle_any t u W)
  have HEnd : Hid (∀ d W' xs', SoilK c kind t c.length d → OwnC B W' v xs' d → w.grownBy W' v.ownBlock → SoilR B w v c kind t (.returned (.bool (lateL kind t c))) W') := fun d W' xs' h1 h2 h3 => ⟨xs', rfl, by rw [← h1.done]; exact h2, h3⟩
  clear h hlen hB
  obtain ⟨pv, kv, rfl⟩ := hsl
  obtain ⟨td, t0, t1, t2, t3⟩ := t
  dsimp only at hbx hb0 HO0 HL
  go_enter Tryz.func50, Tryz.ntmps50
  go_upto_region 1 with (fail)
  generalize w.alloc (.cells #[.int .i64 td, .int .i64 t0, .int .i64 t1, .int .i64 t2, .int .i64 t3] 25) = w0 at *
  have HG0 : Hid (w.grownBy w0 (Value.ownBlock (.slice pv c.length kv))) := grown_of hb0 _
  have HX0 := Lib.hid hbx
  clear hbx hb0
  generalize w.heap.size = bt at *
  go_wp2
  go_loopg [7, 12] c.length (fun gg lt i wr => ∃ (k : Nat) (d : List SV) (xs' : List SW), k ≤ c.length ∧ c.length - k ≤ gg ∧ lt = .bool (lateL kind ⟨td, t0, t1, t2, t3⟩ (c.take k)) ∧ i = .int .i64 (k : Int) ∧ Hid (OwnC B wr (.slice pv c.length kv) xs' d) ∧ Hid (SoilK c kind ⟨td, t0, t1, t2, t3⟩ k d) ∧ Hid (w.grownBy wr (Value.ownBlock (.slice pv c.length kv))) ∧ Hid (BT5 wr bt ⟨td, t0, t1, t2, t3⟩))
  case atStart => exact ⟨0, c, xs, Nat.zero_le _, by omega, by rw [List.take_zero]; rfl, rfl, HO0.out, SoilK.start _ _ _, HG0.out, HX0.out⟩
  case round =>
    obtain ⟨k, d, xs', hkn, hg, rfl, rfl, HO, HK, HG, HX⟩ := hrel
    clear HO0 HG0 HX0
    by_cases hlt : k < c.length
    · have hlz : (k : Int) < (c.length : Int) := by omega
      have hdl := HK.out.len
      have hxl := HO.out.len
      obtain ⟨g, cap, hv, hBg, hgl, hfr, hcells⟩ := HO.out.row (by omega)
      obtain ⟨e0, e1, e2, e3, e4, e5, e6, e7, e8, e9⟩ := hcells k (by omega)
      simp only [Value.slice.injEq] at hv
      obtain ⟨rfl, hn, rfl⟩ := hv
      have hx := HO.out.are.2 k (by omega)
      have hdk := HK.out.hi k (Nat.le_refl _) hlt
      rw [hdk] at hx
      have HLs := late_succ kind ⟨td, t0, t1, t2, t3⟩ c k hlt
      have HNo := Lib.hid (HK.out.no hlt)
      have HYes := Lib.hid (HK.out.yes hlt)
      have HHa : Hid (hangs kind ⟨td, t0, t1, t2, t3⟩ c[k]! = (eqT (c[k]!).t ⟨td, t0, t1, t2, t3⟩ || (decide (kind = 14) && TV.le ⟨td, t0, t1, t2, t3⟩ (c[k]!).t))) := by rw [eqT_eq]; rfl
      have HSet : Hid (∀ W, Below wr.heap.size wr W → hangs kind ⟨td, t0, t1, t2, t3⟩ c[k]! = true → ∃ xs2, OwnC B (W.setCell ⟨g, k * 10 + 8, none⟩ (.bool true)) (.slice (some ⟨g, 0, none⟩) c.length kv) xs2 (d.set k (soilS kind ⟨td, t0, t1, t2, t3⟩ c[k]!)) ∧ w.grownBy (W.setCell ⟨g, k * 10 + 8, none⟩ (.bool true)) (some g)) := fun W hW hh => by
        have hOW := HO.out.below hW
        have hxk : isSl W ⟨xs'[k]!.t, xs'[k]!.p0, xs'[k]!.n0, xs'[k]!.c0, xs'[k]!.p1, xs'[k]!.n1, xs'[k]!.c1, xs'[k]!.p2, xs'[k]!.n2, xs'[k]!.c2, true, xs'[k]!.f⟩ (soilS kind ⟨td, t0, t1, t2, t3⟩ c[k]!) := by
          have q := hx.below hW
          rw [soil_yes hh]
          exact ⟨q.t, rfl, q.f, q.n0, q.k0, q.l0, q.n1, q.k1, q.l1, q.n2, q.k2, q.l2⟩
        have hap := hOW.off xs'[k]! (by rw [getElem!_pos xs' k (by omega)]; exact List.getElem_mem _)
        have r := hOW.setOne (i := k) (j := 8) (by omega) (by decide) rfl (u := .bool true) rfl hxk ⟨hap.p0, hap.p1, hap.p2⟩
        exact ⟨_, r.1, grown_tr (grown_tr HG.out (grown_of hW _)) r.2⟩
      have f8 : wr.frozen? ⟨g, k * 10 + 8, none⟩ = false := hfr _
      have HGl0 := Lib.hid hgl
      have hgx : g ≠ bt := fun e => HOwb.out (by rw [e]; rfl)
      have hxt := hx.t
      have hxd := hx.d
      have hxf := hx.f
      have HLe0 := Lib.hid (fun W => HL.out (c[k]!).t W)
      rw [← hxt] at HHa HLe0
      rw [← hxd, ← hxf] at HLs
      generalize hangs kind ⟨td, t0, t1, t2, t3⟩ c[k]! = ha at *
      generalize soilS kind ⟨td, t0, t1, t2, t3⟩ c[k]! = so at *
      generalize lateL kind ⟨td, t0, t1, t2, t3⟩ (c.take k) = la at *
      have HLs := Lib.hid HLs
      generalize xs'[k]! = x at *
      obtain ⟨⟨y0, y1, y2, y3, y4⟩, p0, n0, c0, p1, n1, c1, p2, n2, c2, xd, xf⟩ := x
      dsimp only at e0 e1 e2 e3 e4 e5 e6 e7 e8 e9 HHa HLe0 HLs
      clear hx hdk hxt hxd hxf hdl hxl hn hfr hcells
      go_upto_region 5 with (fail)
      refine gen_world (fun W3 => Below wr.heap.size wr W3 ∧ Boxed W3 wr.heap.size #[.int .i64 y0, .int .i64 y1, .int .i64 y2, .int .i64 y3, .int .i64 y4, .slice p0 n0 c0, .slice p1 n1 c1, .slice p2 n2 c2, .bool xd, .bool xf] 40) ⟨by first | exact (Below.refl _ _).alloc (Nat.le_refl _) _ | go_grown, by first | exact heap_alloc_new _ _ | skip⟩ ?_
      rintro w3 ⟨hb3, hx3⟩
      have HB3 := Lib.hid hb3
      have HX3 := Lib.hid (HX.out.below hb3)
      have hsz3 : wr.heap.size < w3.heap.size := hx3.lt
      have b0 := hx3.cell 0
      have b1 := hx3.cell 1
      have b2 := hx3.cell 2
      have b3 := hx3.cell 3
      have b4 := hx3.cell 4
      have b8 := hx3.cell 8
      have b9 := hx3.cell 9
      dsimp at b0 b1 b2 b3 b4 b8 b9
      replace e8 := (hb3.cell (p := ⟨g, k * 10 + 8, none⟩) HGl0.out).trans e8
      replace f8 : w3.frozen? ⟨g, k * 10 + 8, none⟩ = false := ((bcell hb3).2 g (k * 10 + 8) HGl0.out).trans f8
      have HGl : Hid (g < w3.heap.size) := Nat.lt_trans HGl0.out hsz3
      have hgb : g ≠ wr.heap.size := by have := HGl0.out; omega
      obtain ⟨z0, z1, z2, z3, z4, zl⟩ := HX3.out
      dsimp only at z0 z1 z2 z3 z4
      generalize hbx : wr.heap.size = bx at *
      have HBx : Hid (bx < w3.heap.size) := hsz3
      clear e0 e1 e2 e3 e4 e5 e6 e7 e9 hx3 hb3 hsz3
      cases heq : eqT ⟨y0, y1, y2, y3, y4⟩ ⟨td, t0, t1, t2, t3⟩
      · by_cases h14 : kind = 14
        · subst h14
          have hle := HLe0.out w3
          cases hq : TV.le ⟨td, t0, t1, t2, t3⟩ ⟨y0, y1, y2, y3, y4⟩
          · have hha : ha = false := by rw [HHa.out, heq, hq]; rfl
            rw [hq] at hle
            subst hha
            have HLe := Lib.hid hle
            have HN := Lib.hid (HNo.out rfl)
            clear hle HNo HYes HSet hq HHa HLe0
            go_wp2_with fail
            refine (HLe.out).mono ?_
            rintro e w4 ⟨rfl, hb4⟩
            have HB4 := Lib.hid (HB3.out.trans (hb4.mono (Nat.le_of_lt HBx.out)))
            have HX4 := Lib.hid (HX3.out.below hb4)
            clear hb4 HLe b0 b1 b2 b3 b4 b8 b9 z0 z1 z2 z3 z4 e8 f8
            go_wp2
            go_roundg (c.length - (k + 1))
            case measure => omega
            case rel => exact ⟨k + 1, d, xs', by omega, by omega, by rw [HLs.out]; simp, by go_num, HO.out.below (by rw [hbx]; exact HB4.out), HN.out, grown_tr HG.out (grown_of (by rw [hbx]; exact HB4.out) _), HX4.out⟩
          · have hha : ha = true := by rw [HHa.out, heq, hq]; rfl
            rw [hq] at hle
            subst hha
            have HLe := Lib.hid hle
            have HSe := Lib.hid (fun W hW => HSet.out W hW rfl)
            clear hle HNo HSet hq HHa HLe0
            go_wp2_with fail
            refine (HLe.out).mono ?_
            rintro e w4 ⟨rfl, hb4⟩
            have HB4 := Lib.hid (HB3.out.trans (hb4.mono (Nat.le_of_lt HBx.out)))
            have HX4 := Lib.hid (HX3.out.below hb4)
            replace b8 := (hb4.cell (p := ⟨bx, 8, none⟩) HBx.out).trans b8
            replace b9 := (hb4.cell (p := ⟨bx, 9, none⟩) HBx.out).trans b9
            replace e8 := (hb4.cell (p := ⟨g, k * 10 + 8, none⟩) HGl.out).trans e8
            replace f8 : w4.frozen? ⟨g, k * 10 + 8, none⟩ = false := ((bcell hb4).2 g (k * 10 + 8) HGl.out).trans f8
            clear hb4 HLe b0 b1 b2 b3 b4 z0 z1 z2 z3 z4
            cases la
            · cases xf
              · go_wp2
                obtain ⟨xs2, hO2, hG2⟩ := HSe.out w4 HB4.out
                go_roundg (c.length - (k + 1))
                case measure => omega
                case rel => exact ⟨k + 1, d.set k so, xs2, by omega, by omega, by rw [HLs.out]; simp, by go_num, hO2, HYes.out, hG2, HX4.out.grown (grown_setCell _ g _ _) (fun e => hgx (Option.some.inj e))⟩
              · cases xd
                · go_wp2
                  obtain ⟨xs2, hO2, hG2⟩ := HSe.out w4 HB4.out
                  go_roundg (c.length - (k + 1))
                  case measure => omega
                  case rel => exact ⟨k + 1, d.set k so, xs2, by omega, by omega, by rw [HLs.out]; simp, by go_num, hO2, HYes.out, hG2, HX4.out.grown (grown_setCell _ g _ _) (fun e => hgx (Option.some.inj e))⟩
                · go_wp2
                  obtain ⟨xs2, hO2, hG2⟩ := HSe.out w4 HB4.out
                  go_roundg (c.length - (k + 1))
                  case measure => omega
                  case rel => exact ⟨k + 1, d.set k so, xs2, by omega, by omega, by rw [HLs.out]; simp, by go_num, hO2, HYes.out, hG2, HX4.out.grown (grown_setCell _ g _ _) (fun e => hgx (Option.some.inj e))⟩
            · go_wp2
              obtain ⟨xs2, hO2, hG2⟩ := HSe.out w4 HB4.out
              go_roundg (c.length - (k + 1))
              case measure => omega
              case rel => exact ⟨k + 1, d.set k so, xs2, by omega, by omega, by rw [HLs.out]; simp, by go_num, hO2, HYes.out, hG2, HX4.out.grown (grown_setCell _ g _ _) (fun e => hgx (Option.some.inj e))⟩
        · have h14z : (kind == 14) = false := by simp; exact h14
          have hha : ha = false := by rw [HHa.out, heq, decide_eq_false h14]; rfl
          subst hha
          have HN := Lib.hid (HNo.out rfl)
          clear HNo HYes HSet HHa HLe0
          go_wp2
          go_roundg (c.length - (k + 1))
          case measure => omega
          case rel => exact ⟨k + 1, d, xs', by omega, by omega, by rw [HLs.out]; simp, by go_num, HO.out.below (by rw [hbx]; exact HB3.out), HN.out, grown_tr HG.out (grown_of (by rw [hbx]; exact HB3.out) _), HX3.out⟩
      · have hha : ha = true := by rw [HHa.out, heq]; rfl
        subst hha
        have HSe := Lib.hid (fun W hW => HSet.out W hW rfl)
        have HB4 := HB3
        have HX4 := HX3
        clear HNo HSet HHa HLe0
        cases la
        · cases xf
          · go_wp2
            obtain ⟨xs2, hO2, hG2⟩ := HSe.out w3 HB4.out
            go_roundg (c.length - (k + 1))
            case measure => omega
            case rel => exact ⟨k + 1, d.set k so, xs2, by omega, by omega, by rw [HLs.out]; simp, by go_num, hO2, HYes.out, hG2, HX4.out.grown (grown_setCell _ g _ _) (fun e => hgx (Option.some.inj e))⟩
          · cases xd
            · go_wp2
              obtain ⟨xs2, hO2, hG2⟩ := HSe.out w3 HB4.out
              go_roundg (c.length - (k + 1))
              case measure => omega
              case rel => exact ⟨k + 1, d.set k so, xs2, by omega, by omega, by rw [HLs.out]; simp, by go_num, hO2, HYes.out, hG2, HX4.out.grown (grown_setCell _ g _ _) (fun e => hgx (Option.some.inj e))⟩
            · go_wp2
              obtain ⟨xs2, hO2, hG2⟩ := HSe.out w3 HB4.out
              go_roundg (c.length - (k + 1))
              case measure => omega
              case rel => exact ⟨k + 1, d.set k so, xs2, by omega, by omega, by rw [HLs.out]; simp, by go_num, hO2, HYes.out, hG2, HX4.out.grown (grown_setCell _ g _ _) (fun e => hgx (Option.some.inj e))⟩
        · go_wp2
          obtain ⟨xs2, hO2, hG2⟩ := HSe.out w3 HB4.out
          go_roundg (c.length - (k + 1))
          case measure => omega
          case rel => exact ⟨k + 1, d.set k so, xs2, by omega, by omega, by rw [HLs.out]; simp, by go_num, hO2, HYes.out, hG2, HX4.out.grown (grown_setCell _ g _ _) (fun e => hgx (Option.some.inj e))⟩
    · obtain rfl : k = c.length := by omega
      rw [List.take_length]
      have hlz : ¬ (c.length : Int) < (c.length : Int) := by omega
      go_wp2
      go_returns
      exact HEnd.out _ _ _ HK.out HO.out HG.out
end Go.Proofs.YthhceggcdaljdaaGreat
namespace Go.Proofs.YthhceggcdaljdaaGreat
open Go.RowKit Go.Shelf
set_option linter.unusedVariables false
set_option linter.unusedSimpArgs false

/- the library's Grow, laid at rows of items -/
def growLI_ren : Go.Shelf.Ren := ⟨fun | 4 => 151 | n => n, fun | 22 => 37 | 25 => 57 | 3 => 3 | 4 => 4 | 9 => 9 | 20 => 20 | 0 => 0 | n => n, fun | n => n⟩
theorem growLI : Go.Proofs.Lays8.n4 Tryz.prog growLI_ren where
  mixed := by kernel_rfl
  f4 := ⟨ "slices.Grow[[]backwash/api.Item,backwash/api.Item]", by decide, Tryz.func151.trans (congrArg some (by kernel_rfl))⟩
  t0 := Tryz.underlying0
  a0 := Tryz.isAgg0
  z0 := Tryz.sizeOf0
  v0 := Tryz.zeroValue0
  t3 := Tryz.underlying3
  a3 := Tryz.isAgg3
  z3 := Tryz.sizeOf3
  v3 := Tryz.zeroValue3
  t4 := Tryz.underlying4
  a4 := Tryz.isAgg4
  z4 := Tryz.sizeOf4
  v4 := Tryz.zeroValue4
  t9 := Tryz.underlying9
  a9 := Tryz.isAgg9
  z9 := Tryz.sizeOf9
  v9 := Tryz.zeroValue9
  t20 := Tryz.underlying20
  a20 := Tryz.isAgg20
  z20 := Tryz.sizeOf20
  v20 := Tryz.zeroValue20
  t22 := Tryz.underlying37
  a22 := Tryz.isAgg37
  z22 := Tryz.sizeOf37
  v22 := Tryz.zeroValue37

theorem infoI : (Tryz.prog.info? 57).map (fun i => (i.zero, i.size, i.bytes)) = some (some (.agg #[.int .i64 0, .int .i64 0, .int .i64 0]), 3, 24) := RI.info
theorem growI_own (n m : Nat) (hn : n + m ≤ 2000000) (W : World) : Calls Tryz.prog 151 #[.slice none 0 0, .int .i64 ((n : Int) + (m : Int))] W (fun e w' => ∃ v, e = .returned v ∧ RI.Own W.heap.size w' v [] ∧ Below W.heap.size W w') := by
  rw [show ((n : Int) + (m : Int)) = ((n + m : Nat) : Int) by omega]
  by_cases h0 : n + m = 0
  · rw [h0]
    refine (Any8.slices_Grow_room growLI none 0 0 0 W (by decide) (by decide) (by decide) (by decide)).mono ?_
    rintro e w' ⟨rfl, rfl⟩
    exact ⟨_, rfl, RowKind.Own.nil RI _ _, Below.refl _ _⟩
  · obtain ⟨i0, hi, hz0, hz1, hz2⟩ := info_parts infoI
    refine (Any8.slices_Grow_grow growLI i0 (.agg #[.int .i64 0, .int .i64 0, .int .i64 0]) hi hz0 (by omega) none 0 0 (n + m) [] W (Nat.le_refl _) (by omega) (by rw [hz2]; omega) (by omega) (by simp) (fun _ => rfl) (fun a h => by cases h)).mono ?_
    rintro e w' ⟨rfl, rfl⟩
    have hge := grownCap_ge W (0 + (n + m)) 0 57
    have hle := grownCap_le_maxLen W (0 + (n + m)) 0 57 (by unfold maxLen; omega)
    have ht : growLI_ren.t 25 = 57 := rfl
    rw [ht]
    generalize grownCap W (0 + (n + m)) 0 57 = c at hge hle ⊢
    generalize hcs : ([].toArray ++ Builtin.zeroCells (Value.agg #[.int .i64 0, .int .i64 0, .int .i64 0]).cells (0 + (n + m) - 0) ++ Builtin.zeroCells (Value.agg #[.int .i64 0, .int .i64 0, .int .i64 0]).cells (c - (0 + (n + m)))) = cs
    have hsz : cs.size = c * 3 := by
      rw [← hcs]
      simp [size_zeroCells, Value.cells]
      omega
    refine ⟨_, rfl, ⟨rfl, .inr ⟨W.heap.size, c, cs, rfl, Nat.le_refl _, ?_, Nat.zero_le _, hle, hsz, rfl⟩⟩, ?_⟩
    · exact heap_alloc_new W.drew _
    · exact (Below.refl _ W).drew.alloc (Nat.le_refl _) _
end Go.Proofs.YthhceggcdaljdaaGreat
namespace Go.Proofs.YthhceggcdaljdaaGreat
open Go.RowKit
set_option linter.unusedVariables false
set_option linter.unusedSimpArgs false

set_option maxRecDepth 100000 in
set_option maxHeartbeats 8000000 in
theorem concatI_any (xs ys zs : List IV) (va vb vc : Value) (g : Nat) (w : World) (hlen : xs.length + ys.length + zs.length ≤ 900000) (ha : RI.Is w va xs) (hb : RI.Is w vb ys) (hc : RI.Is w vc zs)
    (g0 : w.cell? ⟨g, 0, none⟩ = some va) (g1 : w.cell? ⟨g, 1, none⟩ = some vb) (g2 : w.cell? ⟨g, 2, none⟩ = some vc) (hg : g < w.heap.size) :
    Calls Tryz.prog 111 #[.slice (some ⟨g, 0, none⟩) 3 3] w (RI.Made (xs ++ ys ++ zs) w) := by
  obtain ⟨p, c, rfl⟩ := ha.slice
  obtain ⟨q, d, rfl⟩ := hb.slice
  obtain ⟨r, f, rfl⟩ := hc.slice
  have HG : Hid (∀ W, Calls Tryz.prog 151 #[.slice none 0 0, .int .i64 ((xs.length : Int) + (ys.length : Int) + (zs.length : Int))] W (fun e w' => ∃ v, e = .returned v ∧ RI.Own W.heap.size w' v [] ∧ Below W.heap.size W w')) := fun W => by
    have h := growI_own (xs.length + ys.length) zs.length (by omega) W
    rw [Int.natCast_add] at h
    exact h
  have HA := Lib.hid ha; have HB := Lib.hid hb; have HC := Lib.hid hc
  clear ha hb hc
  generalize hn : xs.length = n at *
  generalize hk : ys.length = m at *
  generalize hj : zs.length = l at *
  have HL1 : Hid (([] : List IV).length + xs.length ≤ 1000000) := by show _ ≤ _; rw [hn]; simp; omega
  have HL2 : Hid ((([] : List IV) ++ xs).length + ys.length ≤ 1000000) := by show _ ≤ _; rw [List.nil_append, hn, hk]; omega
  have HL3 : Hid ((([] : List IV) ++ xs ++ ys).length + zs.length ≤ 1000000) := by show _ ≤ _; rw [List.nil_append, List.length_append, hn, hk, hj]; omega
  have HN := Lib.hid hn; have HK := Lib.hid hk; have HJ := Lib.hid hj
  clear hn hk hj
  have hne : ¬ ((n : Int) + (m : Int) < 0) := by omega
  have hne3 : ¬ ((n : Int) + (m : Int) + (l : Int) < 0) := by omega
  go_enter Tryz.func111, Tryz.ntmps111
  go_wp2
  refine wp_loop_rounds 4 ?_
  rw [rounds_succ]
  go_wp2
  rw [rounds_succ]
  go_wp2
  rw [rounds_succ]
  go_wp2
  rw [rounds_succ]
  go_wp2_with fail
  refine (HG.out _).mono ?_
  rintro ee w1 ⟨u, rfl, hO, hB⟩
  have h0 : w1.cell? ⟨g, 0, none⟩ = some (.slice p n c) := by rw [hB.cell (p := ⟨g, 0, none⟩) hg]; exact g0
  have h1 : w1.cell? ⟨g, 1, none⟩ = some (.slice q m d) := by rw [hB.cell (p := ⟨g, 1, none⟩) hg]; exact g1
  have h2 : w1.cell? ⟨g, 2, none⟩ = some (.slice r l f) := by rw [hB.cell (p := ⟨g, 2, none⟩) hg]; exact g2
  have HO := Lib.hid hO; have HB1 := Lib.hid hB
  have HZ := Lib.hid hB.size
  clear g0 g1 g2 hO hB
  go_wp2
  refine wp_loop_rounds 4 ?_
  rw [rounds_succ]
  go_wp2_with (at_builtin; refine RowKind.Own.appendAny (R := RI) (ys := xs) HO.out HB1.out HZ.out rfl _ _ rfl rfl rfl (HA.out.below HB1.out) HL1.out ?_; intro v2 w2 hO2 hB2 hz2)
  have k1 : w2.cell? ⟨g, 1, none⟩ = some (.slice q m d) := by rw [hB2.cell (p := ⟨g, 1, none⟩) hg, ← HB1.out.cell (p := ⟨g, 1, none⟩) hg]; exact h1
  have k2 : w2.cell? ⟨g, 2, none⟩ = some (.slice r l f) := by rw [hB2.cell (p := ⟨g, 2, none⟩) hg, ← HB1.out.cell (p := ⟨g, 2, none⟩) hg]; exact h2
  have HO2 := Lib.hid hO2; have HB2 := Lib.hid hB2
  have HZ2 := Lib.hid hB2.size
  clear h0 h1 h2 hO2 hB2
  rw [rounds_succ]
  go_wp2_with (at_builtin; refine RowKind.Own.appendAny (R := RI) (ys := ys) HO2.out HB2.out HZ2.out rfl _ _ rfl rfl rfl (HB.out.below HB2.out) HL2.out ?_; intro v3 w3 hO3 hB3 hz3)
  have j2 : w3.cell? ⟨g, 2, none⟩ = some (.slice r l f) := by rw [hB3.cell (p := ⟨g, 2, none⟩) hg, ← HB2.out.cell (p := ⟨g, 2, none⟩) hg]; exact k2
  have HO3 := Lib.hid hO3; have HB3 := Lib.hid hB3
  have HZ3 := Lib.hid hB3.size
  clear hO3 hB3 k1 k2
  rw [rounds_succ]
  go_wp2_with (at_builtin; refine RowKind.Own.appendAny (R := RI) (ys := zs) HO3.out HB3.out HZ3.out rfl _ _ rfl rfl rfl (HC.out.below HB3.out) HL3.out ?_; intro v4 w4 hO4 hB4 hz4)
  have HO4 := Lib.hid hO4; have HB4 := Lib.hid hB4
  clear hO4 hB4 j2
  rw [rounds_succ]
  go_wp2
  go_returns
  exact ⟨_, rfl, HO4.out, HB4.out⟩
end Go.Proofs.YthhceggcdaljdaaGreat
