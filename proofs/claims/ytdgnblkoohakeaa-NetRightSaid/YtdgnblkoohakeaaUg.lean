/- what the laws of layer 14 ask of the program's functions; awake -/
import Derived.Test.YtdgnblkoohakeaaUk
namespace Go.Proofs.Ytdgnblkoohakeaa
open Go.RowKit
set_option linter.unusedVariables false
set_option linter.unusedSimpArgs false

def SmallN (n : List BV) : Prop := n.length ≤ 1000 ∧ ∀ b ∈ n, b.l.length ≤ 5000
/-- mailboxes that are handed back -/
def AnsB (n0 : List BV) (v0 : Value) (n : List BV) (w w' : World) (v : Value) : Prop := IsBs w' v n ∧ capOk v ∧ Below w.heap.size w w' ∧ ∀ G : Nat → Prop, (∀ b, G b → b < w.heap.size) → IsBsG G w v0 n0 → IsBsG G w' v n
/-- the program's functions do what the document says -/
structure NetC : Prop where
  right : ∀ n v W, SmallN n → IsBs W v n → capOk v → Calls Try.prog 10 #[v] W (Ret (.bool (rightN n)) W)
  len : ∀ n v e f t W, SmallN n → IsBs W v n → capOk v → Calls Try.prog 15 #[v, .int .i64 e, .int .i64 f, .int .i64 t] W (Ret (.int .i64 (lenN n e f t : Int)) W)
  put : ∀ n v f t room m W, SmallN n → IsBs W v n → capOk v → Calls Try.prog 8 #[v, .int .i64 f, .int .i64 t, .int .i64 room, MV.val m] W (fun e W' => ∃ u, e = .returned (.tuple #[u, .bool (putOk n f t room m)]) ∧ AnsB n v (putN n f t room m) W W' u)
  take : ∀ n v e f t i W, SmallN n → IsBs W v n → capOk v → Calls Try.prog 13 #[v, .int .i64 e, .int .i64 f, .int .i64 t, .int .i64 i] W (fun x W' => ∃ u, x = .returned (.tuple #[u, MV.val (takeM n e f t i), .bool (takeOk n e f t i)]) ∧ AnsB n v (takeN n e f t i) W W' u)
  all : ∀ n v W, SmallN n → IsBs W v n → capOk v → Calls Try.prog 18 #[v] W (fun x W' => ∃ u, x = .returned u ∧ RM.Is W' u (allN n) ∧ Below W.heap.size W W')
theorem capNil : capOk (.slice none 0 0) := fun p n c e => by cases e; exact Nat.le_refl _
theorem IsBs.slice {w : World} {v : Value} {n : List BV} (h : IsBs w v n) : ∃ p c, v = .slice p n.length c := by
  obtain ⟨xs, h1, h2, _⟩ := h
  obtain ⟨p, c, e⟩ := h1.slice
  exact ⟨p, c, by rw [e, h2]⟩
set_option maxRecDepth 100000 in
set_option maxHeartbeats 8000000 in
theorem nawake_any (C : NetC) (w : World) : Calls Try.prog 6 #[] w (Ret (.bool true) w) := by
  have HP := Lib.hid (C.put [] (.slice none 0 0) 1 2 9 ⟨3, 0, 0, 0, 0, 0, 0, 0, 1, 0⟩ w ⟨by decide, fun b h => by cases h⟩ (IsBs.nil w) capNil)
  rw [show putOk [] 1 2 9 ⟨3, 0, 0, 0, 0, 0, 0, 0, 1, 0⟩ = true by decide +kernel, show putN [] 1 2 9 ⟨3, 0, 0, 0, 0, 0, 0, 0, 1, 0⟩ = [⟨3, 1, 2, [⟨3, 0, 0, 0, 0, 0, 0, 0, 1, 0⟩]⟩] by decide +kernel] at HP
  have hs : SmallN [⟨3, 1, 2, [⟨3, 0, 0, 0, 0, 0, 0, 0, 1, 0⟩]⟩] := ⟨by decide, fun b h => by simp only [List.mem_singleton] at h; subst h; decide⟩
  have HT := Lib.hid (fun v W => C.take [⟨3, 1, 2, [⟨3, 0, 0, 0, 0, 0, 0, 0, 1, 0⟩]⟩] v 3 1 2 0 W hs)
  rw [show takeOk [⟨3, 1, 2, [⟨3, 0, 0, 0, 0, 0, 0, 0, 1, 0⟩]⟩] 3 1 2 0 = true by decide +kernel, show takeN [⟨3, 1, 2, [⟨3, 0, 0, 0, 0, 0, 0, 0, 1, 0⟩]⟩] 3 1 2 0 = [] by decide +kernel, show takeM [⟨3, 1, 2, [⟨3, 0, 0, 0, 0, 0, 0, 0, 1, 0⟩]⟩] 3 1 2 0 = ⟨3, 0, 0, 0, 0, 0, 0, 0, 1, 0⟩ by decide +kernel] at HT
  have HL := Lib.hid (fun v W => C.len [⟨3, 1, 2, [⟨3, 0, 0, 0, 0, 0, 0, 0, 1, 0⟩]⟩] v 3 1 2 W hs)
  rw [show ((lenN [⟨3, 1, 2, [⟨3, 0, 0, 0, 0, 0, 0, 0, 1, 0⟩]⟩] 3 1 2 : Nat) : Int) = 1 by decide +kernel] at HL
  have HAl := Lib.hid (fun v W => C.all [⟨3, 1, 2, [⟨3, 0, 0, 0, 0, 0, 0, 0, 1, 0⟩]⟩] v W hs)
  rw [show allN [⟨3, 1, 2, [⟨3, 0, 0, 0, 0, 0, 0, 0, 1, 0⟩]⟩] = [⟨3, 0, 0, 0, 0, 0, 0, 0, 1, 0⟩] by decide +kernel] at HAl
  generalize ([⟨3, 1, 2, [⟨3, 0, 0, 0, 0, 0, 0, 0, 1, 0⟩]⟩] : List BV) = n1 at *
  clear C hs
  go_enter Try.func6, Try.ntmps6
  go_wp2_with fail
  refine (HP.out).mono ?_
  rintro e w1 ⟨u, rfl, hu, hcu, hb1, _⟩
  have HB1 := Lib.hid hb1
  have HI1 := Lib.hid hu
  have HC1 := Lib.hid hcu
  clear hb1 hu hcu HP
  go_wp2_with fail
  refine (HT.out _ _ HI1.out HC1.out).mono ?_
  rintro e w2 ⟨u2, rfl, hu2, hcu2, hb2, _⟩
  have HB2 := Lib.hid (bcall HB1.out hb2 HB1.out.size)
  have HI2 := Lib.hid (HI1.out.below hb2)
  obtain ⟨p2, c2, rfl⟩ := hu2.slice
  clear hb2 hu2 hcu2 HB1 HI1 HT
  go_upto_region 3 with (fail)
  refine gen_world (fun W3 => Below w2.heap.size w2 W3 ∧ W3.cell? ⟨w2.heap.size, 8, none⟩ = some (.int .i64 1)) ⟨by first | exact (Below.refl _ _).alloc (Nat.le_refl _) _ | go_grown, by simp⟩ ?_
  rintro w3 ⟨hb3, c8⟩
  have HB3 := Lib.hid (bcall HB2.out hb3 HB2.out.size)
  have HI3 := Lib.hid (HI2.out.below hb3)
  have h28 : w2.heap.size < w3.heap.size := World.block_lt_of_cell? _ _ c8
  generalize w2.heap.size = b2 at *
  have HC8 : Hid (∀ W, Below w3.heap.size w3 W → W.cell? ⟨b2, 8, none⟩ = some (.int .i64 1)) := fun W hW => (hW.cell (p := ⟨b2, 8, none⟩) h28).trans c8
  clear hb3 HB2 HI2 c8
  go_wp2_with fail
  refine (HL.out _ _ HI3.out HC1.out).mono ?_
  rintro e w4 ⟨rfl, hb4⟩
  have HB4 := Lib.hid (bcall HB3.out hb4 HB3.out.size)
  have HI4 := Lib.hid (HI3.out.below hb4)
  have c8 := HC8.out w4 hb4
  clear hb4 HB3 HI3 HL
  go_wp2_with fail
  refine (HAl.out _ _ HI4.out HC1.out).mono ?_
  rintro e w5 ⟨u5, rfl, hu5, hb5⟩
  have HB5 := Lib.hid (bcall HB4.out hb5 HB4.out.size)
  obtain ⟨p5, c5, rfl⟩ := hu5.slice
  clear hb5 hu5 HI4 HB4 HAl c8
  go_wp2
  go_returns
  exact ⟨rfl, HB5.out⟩
end Go.Proofs.Ytdgnblkoohakeaa
