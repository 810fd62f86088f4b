/- the program's: the slots that hang on what came are dirty -/
import Derived.Test.YthomddbekiknjaaGreatG38
import Derived.Test.YthomddbekiknjaaGreatG28
namespace Go.Proofs.YthomddbekiknjaaGreat
open Go.RowKit
set_option linter.unusedVariables false
set_option linter.unusedSimpArgs false

def SoilR (B : Nat) (w : World) (v : Value) (c : List SV) (kind : Int) (t : TV) (e : Ending) (w' : World) : Prop := ∃ xs', e = .returned (.bool (lateL kind t c)) ∧ OwnC B w' v xs' (c.map (soilS kind t)) ∧ w.grownBy w' v.ownBlock
/-- the first k are soiled -/
structure SoilK (c : List SV) (kind : Int) (t : TV) (k : Nat) (d : List SV) : Prop where
  len : d.length = c.length
  lo : ∀ j, j < k → d[j]! = soilS kind t c[j]!
  hi : ∀ j, k ≤ j → j < c.length → d[j]! = c[j]!
theorem getElem!_set_self {α : Type} [Inhabited α] (l : List α) (i : Nat) (x : α) (h : i < l.length) : (l.set i x)[i]! = x := by
  rw [getElem!_pos (l.set i x) i (by rw [List.length_set]; exact h), List.getElem_set_self]
theorem getElem!_set_ne {α : Type} [Inhabited α] (l : List α) (i j : Nat) (x : α) (h : i ≠ j) (hj : j < l.length) : (l.set i x)[j]! = l[j]! := by
  rw [getElem!_pos (l.set i x) j (by rw [List.length_set]; exact hj), List.getElem_set_ne h, ← getElem!_pos l j hj]
theorem SoilK.yes {c : List SV} {kind : Int} {t : TV} {k : Nat} {d : List SV} (h : SoilK c kind t k d) (hk : k < c.length) : SoilK c kind t (k + 1) (d.set k (soilS kind t c[k]!)) :=
  ⟨by rw [List.length_set]; exact h.len, fun j hj => by
    by_cases e : k = j
    · subst e; exact getElem!_set_self _ _ _ (by rw [h.len]; exact hk)
    · rw [getElem!_set_ne _ _ _ _ e (by rw [h.len]; omega)]; exact h.lo j (by omega), fun j hj hl => by
    rw [getElem!_set_ne _ _ _ _ (by omega) (by rw [h.len]; exact hl)]; exact h.hi j (by omega) hl⟩
theorem soil_no {kind : Int} {t : TV} {x : SV} (h : hangs kind t x = false) : soilS kind t x = x := by
  unfold soilS
  rw [h, Bool.or_false]
theorem soil_yes {kind : Int} {t : TV} {x : SV} (h : hangs kind t x = true) : soilS kind t x = ⟨x.t, x.a, x.b, x.s, true, x.fired⟩ := by
  unfold soilS
  rw [h, Bool.or_true]
theorem SoilK.no {c : List SV} {kind : Int} {t : TV} {k : Nat} {d : List SV} (h : SoilK c kind t k d) (hk : k < c.length) (hn : hangs kind t c[k]! = false) : SoilK c kind t (k + 1) d :=
  ⟨h.len, fun j hj => by
    by_cases e : j = k
    · subst e; rw [h.hi j (Nat.le_refl _) hk, soil_no hn]
    · exact h.lo j (by omega), fun j hj hl => h.hi j (by omega) hl⟩
theorem SoilK.done {c : List SV} {kind : Int} {t : TV} {d : List SV} (h : SoilK c kind t c.length d) : d = c.map (soilS kind t) := by
  refine List.ext_getElem (by rw [List.length_map]; exact h.len) fun j h1 h2 => ?_
  have := h.lo j (by rw [← h.len]; exact h1)
  rw [getElem!_pos d j h1, getElem!_pos c j (by rw [← h.len]; exact h1)] at this
  rw [this, List.getElem_map]
theorem SoilK.start (c : List SV) (kind : Int) (t : TV) : SoilK c kind t 0 c := ⟨rfl, fun j hj => absurd hj (Nat.not_lt_zero j), fun _ _ _ => rfl⟩
theorem late_succ (kind : Int) (t : TV) (c : List SV) (k : Nat) (hk : k < c.length) : lateL kind t (c.take (k + 1)) = (lateL kind t (c.take k) || ((c[k]!).fired && !(c[k]!).dirty && hangs kind t c[k]!)) := by
  unfold lateL
  rw [take_getA c k hk, List.any_append, List.any_cons, List.any_nil, Bool.or_false]
theorem BT5.grown {w w' : World} {b : Nat} {t : TV} {r : Option Nat} (h : BT5 w b t) (hg : w.grownBy w' r) (hn : r ≠ some b) : BT5 w' b t := by
  have hb := hg.block b h.l (fun e => hn e.symm)
  exact ⟨(World.cell?_of_block (a := ⟨b, 0, none⟩) hb).trans h.c0, (World.cell?_of_block (a := ⟨b, 1, none⟩) hb).trans h.c1, (World.cell?_of_block (a := ⟨b, 2, none⟩) hb).trans h.c2, (World.cell?_of_block (a := ⟨b, 3, none⟩) hb).trans h.c3, (World.cell?_of_block (a := ⟨b, 4, none⟩) hb).trans h.c4, Nat.lt_of_lt_of_le h.l hg.size⟩
attribute [local go_sem ↓] eqTime neTime
set_option maxRecDepth 100000 in
set_option maxHeartbeats 16000000 in
theorem psoil_any (xs : List SW) (c : List SV) (v : Value) (kind : Int) (t : TV) (B : Nat) (w : World) (h : OwnC B w v xs c) (hl : c.length ≤ 800000) (hB : B ≤ w.heap.size) : Calls Tryz.prog 32 #[v, .int .i64 kind, TV.val t] w (SoilR B w v c kind t) := by
  have hlen := h.len
  have hsl : ∃ p k, v = .slice p c.length k := by obtain ⟨p, k, e⟩ := h.own.is.slice; exact ⟨p, k, by rw [← hlen]; exact e⟩
  have HOwb : Hid (v.ownBlock ≠ some w.heap.size) := fun e => by have := (h.own.lt _ e).2; omega
  have hbx := BT5.new w t
  have hb0 := (Below.refl w.heap.size w).alloc (Nat.le_refl _) (.cells #[.int .i64 t.d, .int .i64 t.c0, .int .i64 t.c1, .int .i64 t.c2, .int .i64 t.c3] 25)
  have HO0 := Lib.hid (h.below hb0)
  have HL := Lib.hid (fun (u : TV) W => tle_any t u W)
  have HEnd : Hid (∀ d W' xs', SoilK c kind t c.length d → OwnC B W' v xs' d → w.grownBy W' v.ownBlock → SoilR B w v c kind t (.returned (.bool (lateL kind t c))) W') := fun d W' xs' h1 h2 h3 => ⟨xs', rfl, by rw [← h1.done]; exact h2, h3⟩
  clear h hlen hB
  obtain ⟨pv, kv, rfl⟩ := hsl
  obtain ⟨td, t0, t1, t2, t3⟩ := t
  dsimp only at hbx hb0 HO0 HL
  go_enter Tryz.func32, Tryz.ntmps32
  go_upto_region 1 with (fail)
  generalize w.alloc (.cells #[.int .i64 td, .int .i64 t0, .int .i64 t1, .int .i64 t2, .int .i64 t3] 25) = w0 at *
  have HG0 : Hid (w.grownBy w0 (Value.ownBlock (.slice pv c.length kv))) := grown_of hb0 _
  have HX0 := Lib.hid hbx
  clear hbx hb0
  generalize w.heap.size = bt at *
  go_wp2
  go_loopg [7, 12] c.length (fun gg lt i wr => ∃ (k : Nat) (d : List SV) (xs' : List SW), k ≤ c.length ∧ c.length - k ≤ gg ∧ lt = .bool (lateL kind ⟨td, t0, t1, t2, t3⟩ (c.take k)) ∧ i = .int .i64 (k : Int) ∧ Hid (OwnC B wr (.slice pv c.length kv) xs' d) ∧ Hid (SoilK c kind ⟨td, t0, t1, t2, t3⟩ k d) ∧ Hid (w.grownBy wr (Value.ownBlock (.slice pv c.length kv))) ∧ Hid (BT5 wr bt ⟨td, t0, t1, t2, t3⟩))
  case atStart => exact ⟨0, c, xs, Nat.zero_le _, by omega, by rw [List.take_zero]; rfl, rfl, HO0.out, SoilK.start _ _ _, HG0.out, HX0.out⟩
  case round =>
    obtain ⟨k, d, xs', hkn, hg, rfl, rfl, HO, HK, HG, HX⟩ := hrel
    clear HO0 HG0 HX0
    by_cases hlt : k < c.length
    · have hlz : (k : Int) < (c.length : Int) := by omega
      have hdl := HK.out.len
      have hxl := HO.out.len
      obtain ⟨g, cap, hv, hBg, hgl, hfr, hcells⟩ := HO.out.row (by omega)
      obtain ⟨e0, e1, e2, e3, e4, e5, e6, e7, e8, e9⟩ := hcells k (by omega)
      simp only [Value.slice.injEq] at hv
      obtain ⟨rfl, hn, rfl⟩ := hv
      have hx := HO.out.are.2 k (by omega)
      have hdk := HK.out.hi k (Nat.le_refl _) hlt
      rw [hdk] at hx
      have HLs := late_succ kind ⟨td, t0, t1, t2, t3⟩ c k hlt
      have HNo := Lib.hid (HK.out.no hlt)
      have HYes := Lib.hid (HK.out.yes hlt)
      have HHa : Hid (hangs kind ⟨td, t0, t1, t2, t3⟩ c[k]! = (eqT (c[k]!).t ⟨td, t0, t1, t2, t3⟩ || (decide (kind = 14) && TV.le ⟨td, t0, t1, t2, t3⟩ (c[k]!).t))) := by rw [eqT_eq]; rfl
      have HSet : Hid (∀ W, Below wr.heap.size wr W → hangs kind ⟨td, t0, t1, t2, t3⟩ c[k]! = true → ∃ xs2, OwnC B (W.setCell ⟨g, k * 10 + 8, none⟩ (.bool true)) (.slice (some ⟨g, 0, none⟩) c.length kv) xs2 (d.set k (soilS kind ⟨td, t0, t1, t2, t3⟩ c[k]!)) ∧ w.grownBy (W.setCell ⟨g, k * 10 + 8, none⟩ (.bool true)) (some g)) := fun W hW hh => by
        have hOW := HO.out.below hW
        have hxk : isSl W ⟨xs'[k]!.t, xs'[k]!.p0, xs'[k]!.n0, xs'[k]!.c0, xs'[k]!.p1, xs'[k]!.n1, xs'[k]!.c1, xs'[k]!.p2, xs'[k]!.n2, xs'[k]!.c2, true, xs'[k]!.f⟩ (soilS kind ⟨td, t0, t1, t2, t3⟩ c[k]!) := by
          have q := hx.below hW
          rw [soil_yes hh]
          exact ⟨q.t, rfl, q.f, q.n0, q.k0, q.l0, q.n1, q.k1, q.l1, q.n2, q.k2, q.l2⟩
        have hap := hOW.off xs'[k]! (by rw [getElem!_pos xs' k (by omega)]; exact List.getElem_mem _)
        have r := hOW.setOne (i := k) (j := 8) (by omega) (by decide) rfl (u := .bool true) rfl hxk ⟨hap.p0, hap.p1, hap.p2⟩
        exact ⟨_, r.1, grown_tr (grown_tr HG.out (grown_of hW _)) r.2⟩
      have f8 : wr.frozen? ⟨g, k * 10 + 8, none⟩ = false := hfr _
      have HGl0 := Lib.hid hgl
      have hgx : g ≠ bt := fun e => HOwb.out (by rw [e]; rfl)
      have hxt := hx.t
      have hxd := hx.d
      have hxf := hx.f
      have HLe0 := Lib.hid (fun W => HL.out (c[k]!).t W)
      rw [← hxt] at HHa HLe0
      rw [← hxd, ← hxf] at HLs
      generalize hangs kind ⟨td, t0, t1, t2, t3⟩ c[k]! = ha at *
      generalize soilS kind ⟨td, t0, t1, t2, t3⟩ c[k]! = so at *
      generalize lateL kind ⟨td, t0, t1, t2, t3⟩ (c.take k) = la at *
      have HLs := Lib.hid HLs
      generalize xs'[k]! = x at *
      obtain ⟨⟨y0, y1, y2, y3, y4⟩, p0, n0, c0, p1, n1, c1, p2, n2, c2, xd, xf⟩ := x
      dsimp only at e0 e1 e2 e3 e4 e5 e6 e7 e8 e9 HHa HLe0 HLs
      clear hx hdk hxt hxd hxf hdl hxl hn hfr hcells
      go_upto_region 5 with (fail)
      refine gen_world (fun W3 => Below wr.heap.size wr W3 ∧ Boxed W3 wr.heap.size #[.int .i64 y0, .int .i64 y1, .int .i64 y2, .int .i64 y3, .int .i64 y4, .slice p0 n0 c0, .slice p1 n1 c1, .slice p2 n2 c2, .bool xd, .bool xf] 40) ⟨by first | exact (Below.refl _ _).alloc (Nat.le_refl _) _ | go_grown, by first | exact heap_alloc_new _ _ | skip⟩ ?_
      rintro w3 ⟨hb3, hx3⟩
      have HB3 := Lib.hid hb3
      have HX3 := Lib.hid (HX.out.below hb3)
      have hsz3 : wr.heap.size < w3.heap.size := hx3.lt
      have b0 := hx3.cell 0
      have b1 := hx3.cell 1
      have b2 := hx3.cell 2
      have b3 := hx3.cell 3
      have b4 := hx3.cell 4
      have b8 := hx3.cell 8
      have b9 := hx3.cell 9
      dsimp at b0 b1 b2 b3 b4 b8 b9
      replace e8 := (hb3.cell (p := ⟨g, k * 10 + 8, none⟩) HGl0.out).trans e8
      replace f8 : w3.frozen? ⟨g, k * 10 + 8, none⟩ = false := ((bcell hb3).2 g (k * 10 + 8) HGl0.out).trans f8
      have HGl : Hid (g < w3.heap.size) := Nat.lt_trans HGl0.out hsz3
      have hgb : g ≠ wr.heap.size := by have := HGl0.out; omega
      obtain ⟨z0, z1, z2, z3, z4, zl⟩ := HX3.out
      dsimp only at z0 z1 z2 z3 z4
      generalize hbx : wr.heap.size = bx at *
      have HBx : Hid (bx < w3.heap.size) := hsz3
      clear e0 e1 e2 e3 e4 e5 e6 e7 e9 hx3 hb3 hsz3
      cases heq : eqT ⟨y0, y1, y2, y3, y4⟩ ⟨td, t0, t1, t2, t3⟩
      · by_cases h14 : kind = 14
        · subst h14
          have hle := HLe0.out w3
          cases hq : TV.le ⟨td, t0, t1, t2, t3⟩ ⟨y0, y1, y2, y3, y4⟩
          · have hha : ha = false := by rw [HHa.out, heq, hq]; rfl
            rw [hq] at hle
            subst hha
            have HLe := Lib.hid hle
            have HN := Lib.hid (HNo.out rfl)
            clear hle HNo HYes HSet hq HHa HLe0
            go_wp2_with fail
            refine (HLe.out).mono ?_
            rintro e w4 ⟨rfl, hb4⟩
            have HB4 := Lib.hid (HB3.out.trans (hb4.mono (Nat.le_of_lt HBx.out)))
            have HX4 := Lib.hid (HX3.out.below hb4)
            clear hb4 HLe b0 b1 b2 b3 b4 b8 b9 z0 z1 z2 z3 z4 e8 f8
            go_wp2
            go_roundg (c.length - (k + 1))
            case measure => omega
            case rel => exact ⟨k + 1, d, xs', by omega, by omega, by rw [HLs.out]; simp, by go_num, HO.out.below (by rw [hbx]; exact HB4.out), HN.out, grown_tr HG.out (grown_of (by rw [hbx]; exact HB4.out) _), HX4.out⟩
          · have hha : ha = true := by rw [HHa.out, heq, hq]; rfl
            rw [hq] at hle
            subst hha
            have HLe := Lib.hid hle
            have HSe := Lib.hid (fun W hW => HSet.out W hW rfl)
            clear hle HNo HSet hq HHa HLe0
            go_wp2_with fail
            refine (HLe.out).mono ?_
            rintro e w4 ⟨rfl, hb4⟩
            have HB4 := Lib.hid (HB3.out.trans (hb4.mono (Nat.le_of_lt HBx.out)))
            have HX4 := Lib.hid (HX3.out.below hb4)
            replace b8 := (hb4.cell (p := ⟨bx, 8, none⟩) HBx.out).trans b8
            replace b9 := (hb4.cell (p := ⟨bx, 9, none⟩) HBx.out).trans b9
            replace e8 := (hb4.cell (p := ⟨g, k * 10 + 8, none⟩) HGl.out).trans e8
            replace f8 : w4.frozen? ⟨g, k * 10 + 8, none⟩ = false := ((bcell hb4).2 g (k * 10 + 8) HGl.out).trans f8
            clear hb4 HLe b0 b1 b2 b3 b4 z0 z1 z2 z3 z4
            cases la
            · cases xf
              · go_wp2
                obtain ⟨xs2, hO2, hG2⟩ := HSe.out w4 HB4.out
                go_roundg (c.length - (k + 1))
                case measure => omega
                case rel => exact ⟨k + 1, d.set k so, xs2, by omega, by omega, by rw [HLs.out]; simp, by go_num, hO2, HYes.out, hG2, HX4.out.grown (grown_setCell _ g _ _) (fun e => hgx (Option.some.inj e))⟩
              · cases xd
                · go_wp2
                  obtain ⟨xs2, hO2, hG2⟩ := HSe.out w4 HB4.out
                  go_roundg (c.length - (k + 1))
                  case measure => omega
                  case rel => exact ⟨k + 1, d.set k so, xs2, by omega, by omega, by rw [HLs.out]; simp, by go_num, hO2, HYes.out, hG2, HX4.out.grown (grown_setCell _ g _ _) (fun e => hgx (Option.some.inj e))⟩
                · go_wp2
                  obtain ⟨xs2, hO2, hG2⟩ := HSe.out w4 HB4.out
                  go_roundg (c.length - (k + 1))
                  case measure => omega
                  case rel => exact ⟨k + 1, d.set k so, xs2, by omega, by omega, by rw [HLs.out]; simp, by go_num, hO2, HYes.out, hG2, HX4.out.grown (grown_setCell _ g _ _) (fun e => hgx (Option.some.inj e))⟩
            · go_wp2
              obtain ⟨xs2, hO2, hG2⟩ := HSe.out w4 HB4.out
              go_roundg (c.length - (k + 1))
              case measure => omega
              case rel => exact ⟨k + 1, d.set k so, xs2, by omega, by omega, by rw [HLs.out]; simp, by go_num, hO2, HYes.out, hG2, HX4.out.grown (grown_setCell _ g _ _) (fun e => hgx (Option.some.inj e))⟩
        · have h14z : (kind == 14) = false := by simp; exact h14
          have hha : ha = false := by rw [HHa.out, heq, decide_eq_false h14]; rfl
          subst hha
          have HN := Lib.hid (HNo.out rfl)
          clear HNo HYes HSet HHa HLe0
          go_wp2
          go_roundg (c.length - (k + 1))
          case measure => omega
          case rel => exact ⟨k + 1, d, xs', by omega, by omega, by rw [HLs.out]; simp, by go_num, HO.out.below (by rw [hbx]; exact HB3.out), HN.out, grown_tr HG.out (grown_of (by rw [hbx]; exact HB3.out) _), HX3.out⟩
      · have hha : ha = true := by rw [HHa.out, heq]; rfl
        subst hha
        have HSe := Lib.hid (fun W hW => HSet.out W hW rfl)
        have HB4 := HB3
        have HX4 := HX3
        clear HNo HSet HHa HLe0
        cases la
        · cases xf
          · go_wp2
            obtain ⟨xs2, hO2, hG2⟩ := HSe.out w3 HB4.out
            go_roundg (c.length - (k + 1))
            case measure => omega
            case rel => exact ⟨k + 1, d.set k so, xs2, by omega, by omega, by rw [HLs.out]; simp, by go_num, hO2, HYes.out, hG2, HX4.out.grown (grown_setCell _ g _ _) (fun e => hgx (Option.some.inj e))⟩
          · cases xd
            · go_wp2
              obtain ⟨xs2, hO2, hG2⟩ := HSe.out w3 HB4.out
              go_roundg (c.length - (k + 1))
              case measure => omega
              case rel => exact ⟨k + 1, d.set k so, xs2, by omega, by omega, by rw [HLs.out]; simp, by go_num, hO2, HYes.out, hG2, HX4.out.grown (grown_setCell _ g _ _) (fun e => hgx (Option.some.inj e))⟩
            · go_wp2
              obtain ⟨xs2, hO2, hG2⟩ := HSe.out w3 HB4.out
              go_roundg (c.length - (k + 1))
              case measure => omega
              case rel => exact ⟨k + 1, d.set k so, xs2, by omega, by omega, by rw [HLs.out]; simp, by go_num, hO2, HYes.out, hG2, HX4.out.grown (grown_setCell _ g _ _) (fun e => hgx (Option.some.inj e))⟩
        · go_wp2
          obtain ⟨xs2, hO2, hG2⟩ := HSe.out w3 HB4.out
          go_roundg (c.length - (k + 1))
          case measure => omega
          case rel => exact ⟨k + 1, d.set k so, xs2, by omega, by omega, by rw [HLs.out]; simp, by go_num, hO2, HYes.out, hG2, HX4.out.grown (grown_setCell _ g _ _) (fun e => hgx (Option.some.inj e))⟩
    · obtain rfl : k = c.length := by omega
      rw [List.take_length]
      have hlz : ¬ (c.length : Int) < (c.length : Int) := by omega
      go_wp2
      go_returns
      exact HEnd.out _ _ _ HK.out HO.out HG.out
end Go.Proofs.YthomddbekiknjaaGreat
/- the program's: the place of a timestamp's slot -/
namespace Go.Proofs.YthomddbekiknjaaGreat
open Go.RowKit
set_option linter.unusedVariables false
set_option linter.unusedSimpArgs false

attribute [local go_sem ↓] eqTime neTime
set_option maxRecDepth 100000 in
set_option maxHeartbeats 4000000 in
theorem pfind1_any (x : SW) (t : TV) (B : Nat) (w : World) (hB : BT5 w B t) : Calls Tryz.prog 57 #[SW.val x, .pointer (some ⟨B, 0, none⟩)] w (Ret (.bool (eqT x.t t)) w) := by
  obtain ⟨⟨td, t0, t1, t2, t3⟩, p0, n0, c0, p1, n1, c1, p2, n2, c2, xd, xf⟩ := x
  obtain ⟨y0, y1, y2, y3, y4⟩ := t
  obtain ⟨z0, z1, z2, z3, z4, zl⟩ := hB
  dsimp only at z0 z1 z2 z3 z4 ⊢
  have HB := Lib.hid ((Below.refl w.heap.size w).alloc (Nat.le_refl _) (.cells #[.int .i64 td, .int .i64 t0, .int .i64 t1, .int .i64 t2, .int .i64 t3, .slice p0 n0 c0, .slice p1 n1 c1, .slice p2 n2 c2, .bool xd, .bool xf] 40))
  have hne : B ≠ w.heap.size := Nat.ne_of_lt zl
  go_enter Tryz.func57, Tryz.ntmps57
  go_wp2
  go_returns
  exact ⟨rfl, HB.out⟩
def FindR (c : List SV) (t : TV) (w : World) (e : Ending) (w' : World) : Prop := ∃ r : Int, e = .returned (.int .i64 r) ∧ ((r = -1 ∧ lookS c t = none) ∨ ∃ k : Nat, k < c.length ∧ r = (k : Int) ∧ (c[k]!).t = t ∧ lookS c t = some c[k]!) ∧ Below w.heap.size w w'
theorem look_at {c : List SV} {t : TV} {k : Nat} (hk : k < c.length) (h : (c[k]!).t = t) (hn : ∀ j, j < k → (c[j]!).t ≠ t) : lookS c t = some c[k]! := by
  induction c generalizing k with
  | nil => cases hk
  | cons x c ih =>
    rw [lookS_cons]
    cases k with
    | zero =>
      have h : x.t = t := h
      rw [if_pos h]
      rfl
    | succ k =>
      have h0 := hn 0 (by omega)
      rw [if_neg (show ¬ x.t = t from h0)]
      exact ih (k := k) (by simpa using hk) h fun j hj => hn (j + 1) (by omega)
theorem look_no {c : List SV} {t : TV} (hn : ∀ j, j < c.length → (c[j]!).t ≠ t) : lookS c t = none := lookS_none fun x hx => by
  obtain ⟨j, hj, rfl⟩ := List.mem_iff_getElem.1 hx
  have := hn j hj
  rwa [getElem!_pos c j hj] at this
set_option maxRecDepth 100000 in
set_option maxHeartbeats 8000000 in
theorem pindex_any (c : List SV) (v : Value) (t : TV) (B : Nat) (w : World) (hl : c.length ≤ 900000) (h : IsCl w v c) (hB : BT5 w B t) : Calls Tryz.prog 56 #[v, .func (.func 57) #[] #[.pointer (some ⟨B, 0, none⟩)]] w (FindR c t w) := by
  obtain ⟨xs, hx0, hx1⟩ := h
  have HAr := Lib.hid hx1
  obtain ⟨p, k0, rfl, ho⟩ := isOpenedD hx0
  have HO := Lib.hid ho
  have hxn : xs.length = c.length := hx1.1
  rw [hxn] at HO ⊢
  have HC := Lib.hid (fun W x (hW : Below w.heap.size w W) => pfind1_any x t B W (hB.below hW))
  have HNo : Hid (∀ W, (∀ j, j < c.length → (c[j]!).t ≠ t) → Below w.heap.size w W → FindR c t w (.returned (.int .i64 (-1))) W) := fun W h1 h2 => ⟨-1, rfl, .inl ⟨rfl, look_no h1⟩, h2⟩
  have HYe : Hid (∀ W k, k < c.length → (c[k]!).t = t → (∀ j, j < k → (c[j]!).t ≠ t) → Below w.heap.size w W → FindR c t w (.returned (.int .i64 ((k : Nat) : Int))) W) := fun W k h0 h1 h2 h3 => ⟨k, rfl, .inr ⟨k, h0, rfl, h1, look_at h0 h1 h2⟩, h3⟩
  generalize FindR c t w = R at *
  clear hx0 hx1 ho hxn hB
  go_enter Tryz.func56, Tryz.ntmps56
  go_wp2
  go_loopg [8] c.length (fun gg i wr => ∃ k : Nat, k ≤ c.length ∧ c.length - k ≤ gg ∧ i = .int .i64 (k : Int) ∧ Hid (Below w.heap.size w wr) ∧ Hid (∀ j, j < k → (c[j]!).t ≠ t))
  case atStart => exact ⟨0, Nat.zero_le _, by omega, rfl, Below.refl _ _, fun j hj => absurd hj (Nat.not_lt_zero j)⟩
  case round =>
    obtain ⟨k, hkn, hg, rfl, HB, HM⟩ := hrel
    by_cases hlt : k < c.length
    · have hlz : (k : Int) < (c.length : Int) := by omega
      obtain ⟨b, off, rfl, hb, hrow⟩ := HO.out k hlt
      have hxl : xs.length = c.length := HAr.out.1
      obtain ⟨e0, e1, e2, e3, e4, e5, e6, e7, e8, e9⟩ := atSl (hrow.below HB.out hb) k (by omega)
      have hxt := (HAr.out.2 k hlt).t
      have HK0 := HC.out wr xs[k]! HB.out
      rw [hxt, eqT_eq] at HK0
      have HY2 := Lib.hid (fun W h => HYe.out W k hlt h HM.out)
      have HN2 : Hid (¬ (c[k]!).t = t → ∀ j, j < k + 1 → (c[j]!).t ≠ t) := fun q j hj => by
        by_cases e : j = k
        · subst e; exact q
        · exact HM.out j (by omega)
      generalize hq : decide ((c[k]!).t = t) = q at *
      generalize xs[k]! = x at *
      obtain ⟨⟨td, t0, t1, t2, t3⟩, p0, n0, c0, p1, n1, c1, p2, n2, c2, xd, xf⟩ := x
      dsimp only at e0 e1 e2 e3 e4 e5 e6 e7 e8 e9 HK0
      have HK := Lib.hid HK0
      clear HK0 hrow hxl hxt HYe HM
      go_wp2_with fail
      refine (HK.out).mono ?_
      rintro e w2 ⟨rfl, hb2⟩
      have HB2 := Lib.hid (bcall HB.out hb2 HB.out.size)
      clear hb2 HK HB e0 e1 e2 e3 e4 e5 e6 e7 e8 e9
      cases q
      · have HM2 := Lib.hid (HN2.out (of_decide_eq_false hq))
        clear hq HN2 HY2
        go_wp2
        go_roundg (c.length - (k + 1))
        case measure => omega
        case rel => exact ⟨k + 1, by omega, by omega, by go_num, HB2.out, HM2.out⟩
      · have HX := Lib.hid (HY2.out w2 (of_decide_eq_true hq) HB2.out)
        clear hq HN2 HY2
        go_wp2
        exact HX.out
    · obtain rfl : k = c.length := by omega
      have hlz : ¬ (c.length : Int) < (c.length : Int) := by omega
      have HX := Lib.hid (HNo.out wr HM.out HB.out)
      go_wp2
      exact HX.out
set_option maxRecDepth 100000 in
set_option maxHeartbeats 8000000 in
theorem pfind_any (c : List SV) (v : Value) (t : TV) (w : World) (hl : c.length ≤ 900000) (h : IsCl w v c) : Calls Tryz.prog 42 #[v, TV.val t] w (FindR c t w) := by
  have hb0 := (Below.refl w.heap.size w).alloc (Nat.le_refl _) (.cells #[.int .i64 t.d, .int .i64 t.c0, .int .i64 t.c1, .int .i64 t.c2, .int .i64 t.c3] 25)
  have HI := Lib.hid (pindex_any c v t w.heap.size _ hl (h.below hb0) (BT5.new w t))
  have HF : Hid (∀ W W' e, Below w.heap.size w W → FindR c t W e W' → FindR c t w e W') := fun W W' e hW ⟨r, h1, h2, h3⟩ => ⟨r, h1, h2, hW.trans (h3.mono hW.size)⟩
  have HB := Lib.hid hb0
  obtain ⟨p, k, rfl⟩ := h.slice
  clear h hb0
  obtain ⟨td, t0, t1, t2, t3⟩ := t
  dsimp only at HI HB
  go_enter Tryz.func42, Tryz.ntmps42
  go_wp2_with fail
  refine (HI.out).mono ?_
  intro e w2 hh
  have hx := HF.out _ _ _ HB.out hh
  obtain ⟨r, rfl, h1, h2⟩ := hx
  have HX : Hid (FindR c ⟨td, t0, t1, t2, t3⟩ w (.returned (.int .i64 r)) w2) := ⟨r, rfl, h1, h2⟩
  clear HF HI h1 h2 hh
  generalize FindR c ⟨td, t0, t1, t2, t3⟩ w = R at *
  go_wp2
  exact HX.out
end Go.Proofs.YthomddbekiknjaaGreat
/- bag's Clone, Plus and Add: what they answer lies in a row of the call's own -/
namespace Go.Proofs.YthomddbekiknjaaGreat
open Go.RowKit
set_option linter.unusedVariables false
set_option linter.unusedSimpArgs false

attribute [local go_sem ↓] eqNilI
set_option maxRecDepth 100000 in
set_option maxHeartbeats 4000000 in
theorem bcloneM_any (xs : List IV) (v : Value) (w : World) (hl : xs.length ≤ 900000) (h : RI.Is w v xs) : Calls Tryz.prog 59 #[v] w (RI.Made xs w) := by
  obtain ⟨p, c, rfl⟩ := h.slice
  have HI := Lib.hid h
  cases p with
  | none =>
    have hx : xs = [] ∧ c = 0 := by
      rcases h with ⟨hx, q, d, e, hq⟩ | ⟨_, b, off, cap, e, _⟩
      · simp only [Value.slice.injEq] at e
        obtain ⟨rfl, _, rfl⟩ := e
        exact ⟨hx, hq rfl⟩
      · cases e
    obtain ⟨rfl, rfl⟩ := hx
    clear h HI
    show Calls _ _ #[.slice none 0 0] _ _
    clear hl
    go_enter Tryz.func59, Tryz.ntmps59
    go_wp2
    go_returns
    exact ⟨_, rfl, RowKind.Own.nil RI _ _, Below.refl _ _⟩
  | some ad =>
    clear h
    have HO := Lib.hid (show RI.Own w.heap.size (w.alloc (.cells #[] 57)) (.slice (some ⟨w.heap.size, 0, none⟩) 0 0) [] from World.ownsRow_made w #[] 0 (Nat.le_refl _) (Nat.zero_le _) rfl)
    have HB := Lib.hid ((Below.refl w.heap.size w).alloc (Nat.le_refl _) (.cells #[] 57))
    have HL : Hid (([] : List IV).length + xs.length ≤ 1000000) := by show _ ≤ _; simp; omega
    have HZ := Lib.hid HB.out.size
    have HI2 := Lib.hid (HI.out.below HB.out)
    generalize xs.length = n at HI HI2 ⊢
    go_enter Tryz.func59, Tryz.ntmps59
    go_wp2_with (at_builtin; refine RowKind.Own.appendAny (R := RI) (ys := xs) HO.out HB.out HZ.out rfl _ _ rfl rfl rfl HI2.out HL.out ?_; intro v2 w2 hO2 hB2 hz2)
    have HO2 := Lib.hid hO2; have HB2 := Lib.hid hB2
    go_returns
    exact ⟨_, rfl, HO2.out, HB2.out⟩
set_option maxRecDepth 100000 in
set_option maxHeartbeats 4000000 in
theorem bplusM_any (xs ys : List IV) (va vb : Value) (w : World) (hl : xs.length ≤ 400000) (hm : ys.length ≤ 400000) (ca : capOk va) (cb : capOk vb) (ha : RI.Is w va xs) (hb : RI.Is w vb ys) :
    Calls Tryz.prog 44 #[va, vb] w (RI.Made (plusI xs ys) w) := by
  have HA := Lib.hid ha; have HB := Lib.hid hb
  have HRA := Lib.hid (bright_any xs va w (by omega) ha)
  have HRB := Lib.hid (fun W (hW : Below w.heap.size w W) => bright_any ys vb W (by omega) (hb.below hW))
  have HC := Lib.hid (fun W (hW : Below w.heap.size w W) => bcloneM_any xs va W (by omega) (ha.below hW))
  have HM : Hid (rightI xs = true → rightI ys = true → ∀ W (hW : Below w.heap.size w W), Calls Tryz.prog 60 #[va, vb] W (RI.Made (mergedI xs ys) W)) := fun h1 h2 W hW => bmerged_any xs ys va vb W hl hm (inN_of h1) (inN_of h2) ca cb (ha.below hW) (hb.below hW)
  have h1 : rightI xs = false → plusI xs ys = xs := fun h => by unfold plusI; rw [if_neg (by rw [h]; simp)]
  have h2 : rightI ys = false → plusI xs ys = xs := fun h => by unfold plusI; rw [if_neg (by rw [h]; simp)]
  have h3 : rightI xs = true → rightI ys = true → plusI xs ys = mergedI xs ys := fun h k => by unfold plusI; rw [if_pos ⟨h, k⟩]
  obtain ⟨p, c, rfl⟩ := ha.slice
  obtain ⟨q, d, rfl⟩ := hb.slice
  clear ha hb ca cb HA HB
  generalize plusI xs ys = res at h1 h2 h3 ⊢
  generalize rightI xs = b1 at *
  generalize rightI ys = b2 at *
  generalize mergedI xs ys = mm at *
  generalize xs.length = n1 at *
  generalize ys.length = n2 at *
  have H1 := Lib.hid h1; have H2 := Lib.hid h2; have H3 := Lib.hid h3
  clear h1 h2 h3
  go_enter Tryz.func44, Tryz.ntmps44
  go_wp2_with fail
  refine (HRA.out).mono ?_
  rintro e w1 ⟨rfl, hb1⟩
  have HB1 := Lib.hid hb1
  clear hb1 HRA
  cases b1
  · go_wp2_with fail
    refine (HC.out _ HB1.out).mono ?_
    rintro e w2 ⟨v, rfl, hI, hb2⟩
    have HX : Hid (RI.Made res w (.returned v) w2) := ⟨v, rfl, by rw [H1.out (by trivial)]; exact hI.mono HB1.out.size, HB1.out.trans (hb2.mono HB1.out.size)⟩
    clear hI hb2
    go_wp2
    go_returns
    exact HX.out
  · go_wp2_with fail
    refine (HRB.out _ HB1.out).mono ?_
    rintro e w2 ⟨rfl, hb2⟩
    have HB2 := Lib.hid (HB1.out.trans (hb2.mono HB1.out.size))
    clear hb2 HRB
    cases b2
    · go_wp2_with fail
      refine (HC.out _ HB2.out).mono ?_
      rintro e w3 ⟨v, rfl, hI, hb3⟩
      have HX : Hid (RI.Made res w (.returned v) w3) := ⟨v, rfl, by rw [H2.out (by trivial)]; exact hI.mono HB2.out.size, HB2.out.trans (hb3.mono HB2.out.size)⟩
      clear hI hb3
      go_wp2
      go_returns
      exact HX.out
    · have HM2 := Lib.hid (HM.out (by trivial) (by trivial))
      clear HM
      go_wp2_with fail
      refine (HM2.out _ HB2.out).mono ?_
      rintro e w3 ⟨v, rfl, hO, hb3⟩
      have HX : Hid (RI.Made res w (.returned v) w3) := ⟨v, rfl, by rw [H3.out (by trivial) (by trivial)]; exact hO.mono HB2.out.size, HB2.out.trans (hb3.mono HB2.out.size)⟩
      clear hO hb3
      go_wp2
      go_returns
      exact HX.out
set_option maxRecDepth 100000 in
set_option maxHeartbeats 4000000 in
theorem baddM_any (xs : List IV) (t : RV) (n : Int) (va : Value) (w : World) (hl : xs.length ≤ 400000) (ca : capOk va) (ha : RI.Is w va xs) :
    Calls Tryz.prog 31 #[va, t.val, .int .i64 n] w (RI.Made (addI xs t n) w) := by
  have hall := fun (W : World) (vb : Value) (hW : Below w.heap.size w W) (cb : capOk vb) (hb : RI.Is W vb [⟨t, n⟩]) => bplusM_any xs [⟨t, n⟩] va vb W hl (by simp) ca cb (ha.below hW) hb
  have HA := Lib.hid hall
  obtain ⟨p, c, rfl⟩ := ha.slice
  clear ha ca hall
  have hres : plusI xs [⟨t, n⟩] = addI xs t n := rfl
  rw [hres] at HA
  clear hres
  generalize addI xs t n = res at *
  generalize xs.length = n1 at *
  go_enter Tryz.func31, Tryz.ntmps31
  have hrow := RowKind.Row.new (R := RI) (w.alloc (.cells #[.int .i64 t.k, .int .i64 t.v] 27)) ⟨t, n⟩ 57
  rw [World.size_alloc] at hrow
  have hB := ((Below.refl w.heap.size w).alloc (Nat.le_refl _) (.cells #[.int .i64 t.k, .int .i64 t.v] 27)).alloc (by simp) (.cells #[.int .i64 t.k, .int .i64 t.v, .int .i64 n] 57)
  have hcall := HA.out _ (.slice (some ⟨w.heap.size + 1, 0, none⟩) 1 1) hB (fun p n c e => by cases e; exact Nat.le_refl _) (.inr ⟨by simp, w.heap.size + 1, 0, 1, rfl, by simp, hrow⟩)
  have HC := Lib.hid hcall; have HB := Lib.hid hB
  clear hrow hB hcall HA
  go_wp2_with fail
  refine (HC.out).mono ?_
  rintro e w1 ⟨v, rfl, hI, hb1⟩
  have HX : Hid (RI.Made res w (.returned v) w1) := ⟨v, rfl, hI.mono HB.out.size, HB.out.trans (hb1.mono HB.out.size)⟩
  clear hI hb1 HC HB
  go_wp2
  go_returns
  exact HX.out
end Go.Proofs.YthomddbekiknjaaGreat
