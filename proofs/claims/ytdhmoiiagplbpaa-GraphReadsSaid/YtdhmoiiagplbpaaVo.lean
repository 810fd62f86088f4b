/- the document's Read: too long, or no graph's first bytes -/
import Derived.Test.YtdhmoiiagplbpaaVn
import Derived.Lib.SlBytesConst
namespace Go.Proofs.Ytdhmoiiagplbpaa
open Go.RowKit
set_option linter.unusedVariables false
set_option linter.unusedSimpArgs false

/-- the value of no graph -/
abbrev noG : Value := .agg #[.slice none 0 0, .slice none 0 0, .slice none 0 0, .slice none 0 0]
theorem balloc9 {w0 W : World} {o : Obj} (h : Below w0.heap.size w0 W) : Below w0.heap.size w0 (W.alloc o) := h.alloc h.size o
set_option maxRecDepth 100000 in
set_option maxHeartbeats 4000000 in
theorem rread_long (p : Option Addr) (n c : Nat) (w : World) (h : 8192 < n) : Calls Try.prog 15 #[.slice p n c] w (Ret (.tuple #[noG, .int .i64 11]) w) := by
  have h1 : (n : Int) > 8192 := by omega
  go_enter Try.func15, Try.ntmps15
  go_wp2
  go_returns
  exact ⟨rfl, balloc9 (Below.refl _ _)⟩
/-- the cells of a block, frozen or not -/
def rowAny (w : World) (b : Nat) (c : Array Value) : Prop := ∀ j : Nat, w.cell? ⟨b, j, none⟩ = c[j]?
theorem kcG (w : World) : (convert 29 29 (.slice (some ⟨w.heap.size + 1, 0, none⟩) 3 3)).run Try.prog ((w.alloc (.cells #[.slice none 0 0, .slice none 0 0, .slice none 0 0, .slice none 0 0] 26)).alloc (.cells #[.int .u8 66, .int .u8 87, .int .u8 49] 5)) = .ok (.slice (some ⟨w.heap.size + 1, 0, none⟩) 3 3) ((w.alloc (.cells #[.slice none 0 0, .slice none 0 0, .slice none 0 0, .slice none 0 0] 26)).alloc (.cells #[.int .u8 66, .int .u8 87, .int .u8 49] 5 (3, 4))) := by
  have q := Lib.run_convert_bytes_const (P := Try.prog) (w.alloc (.cells #[.slice none 0 0, .slice none 0 0, .slice none 0 0, .slice none 0 0] 26)) 29 5 #[.int .u8 66, .int .u8 87, .int .u8 49] 3 3 Try.underlying29 Try.underlying5
  rw [World.size_alloc] at q
  exact q
theorem oldG (w : World) {b o : Nat} {v : Value} (hb : b < w.heap.size) (h : w.cell? ⟨b, o, none⟩ = some v) : ((w.alloc (.cells #[.slice none 0 0, .slice none 0 0, .slice none 0 0, .slice none 0 0] 26)).alloc (.cells #[.int .u8 66, .int .u8 87, .int .u8 49] 5 (3, 4))).cell? ⟨b, o, none⟩ = some v :=
  Lib.cell?_alloc_marked _ (((balloc9 (o := .cells #[.slice none 0 0, .slice none 0 0, .slice none 0 0, .slice none 0 0] 26) (Below.refl w.heap.size w)).cell hb).trans h)
theorem litG (w : World) : rowAny ((w.alloc (.cells #[.slice none 0 0, .slice none 0 0, .slice none 0 0, .slice none 0 0] 26)).alloc (.cells #[.int .u8 66, .int .u8 87, .int .u8 49] 5 (3, 4))) (w.heap.size + 1) #[.int .u8 66, .int .u8 87, .int .u8 49] := fun j => by
  unfold World.cell?
  rw [show w.heap.size + 1 = (w.alloc (.cells #[.slice none 0 0, .slice none 0 0, .slice none 0 0, .slice none 0 0] 26)).heap.size from by simp, heap_alloc_new]
  rfl
set_option maxRecDepth 100000 in
set_option maxHeartbeats 4000000 in
theorem rread_h0 (p : Option Addr) (c : Nat) (w : World) : Calls Try.prog 15 #[.slice p 0 c] w (Ret (.tuple #[noG, .int .i64 3]) w) := by
  have kc := kcG w
  have k0 : ((w.alloc (.cells #[.slice none 0 0, .slice none 0 0, .slice none 0 0, .slice none 0 0] 26)).alloc (.cells #[.int .u8 66, .int .u8 87, .int .u8 49] 5 (3, 4))).cell? ⟨w.heap.size + 1, 0, none⟩ = some (.int .u8 66) := litG w 0
  have k1 : ((w.alloc (.cells #[.slice none 0 0, .slice none 0 0, .slice none 0 0, .slice none 0 0] 26)).alloc (.cells #[.int .u8 66, .int .u8 87, .int .u8 49] 5 (3, 4))).cell? ⟨w.heap.size + 1, 1, none⟩ = some (.int .u8 87) := litG w 1
  have k2 : ((w.alloc (.cells #[.slice none 0 0, .slice none 0 0, .slice none 0 0, .slice none 0 0] 26)).alloc (.cells #[.int .u8 66, .int .u8 87, .int .u8 49] 5 (3, 4))).cell? ⟨w.heap.size + 1, 2, none⟩ = some (.int .u8 49) := litG w 2
  have HB := Lib.hid (balloc9 (o := .cells #[.int .u8 66, .int .u8 87, .int .u8 49] 5 (3, 4)) (balloc9 (o := .cells #[.slice none 0 0, .slice none 0 0, .slice none 0 0, .slice none 0 0] 26) (Below.refl w.heap.size w)))
  go_enter Try.func15, Try.ntmps15
  go_wp2_with fail
  refine wp_loop_rounds 1 ?_
  rw [rounds_succ]
  go_wp2
  go_returns
  exact ⟨rfl, HB.out⟩
set_option maxRecDepth 100000 in
set_option maxHeartbeats 4000000 in
theorem rread_x0 (b off n c : Nat) (x : Int) (w : World) (hb : b < w.heap.size) (hn : 0 < n) (hn2 : n ≤ 8192) (s0 : w.cell? ⟨b, off + 0, none⟩ = some (.int .u8 x)) (hx : x ≠ 66) : Calls Try.prog 15 #[.slice (some ⟨b, off, none⟩) n c] w (Ret (.tuple #[noG, .int .i64 4]) w) := by
  have kc := kcG w
  have k0 : ((w.alloc (.cells #[.slice none 0 0, .slice none 0 0, .slice none 0 0, .slice none 0 0] 26)).alloc (.cells #[.int .u8 66, .int .u8 87, .int .u8 49] 5 (3, 4))).cell? ⟨w.heap.size + 1, 0, none⟩ = some (.int .u8 66) := litG w 0
  have k1 : ((w.alloc (.cells #[.slice none 0 0, .slice none 0 0, .slice none 0 0, .slice none 0 0] 26)).alloc (.cells #[.int .u8 66, .int .u8 87, .int .u8 49] 5 (3, 4))).cell? ⟨w.heap.size + 1, 1, none⟩ = some (.int .u8 87) := litG w 1
  have k2 : ((w.alloc (.cells #[.slice none 0 0, .slice none 0 0, .slice none 0 0, .slice none 0 0] 26)).alloc (.cells #[.int .u8 66, .int .u8 87, .int .u8 49] 5 (3, 4))).cell? ⟨w.heap.size + 1, 2, none⟩ = some (.int .u8 49) := litG w 2
  have m0 : ((w.alloc (.cells #[.slice none 0 0, .slice none 0 0, .slice none 0 0, .slice none 0 0] 26)).alloc (.cells #[.int .u8 66, .int .u8 87, .int .u8 49] 5 (3, 4))).cell? ⟨b, off, none⟩ = some (.int .u8 x) := oldG w hb s0
  have hxb : (x != 66) = true := by simpa using hx
  have hn1 : (n : Int) ≥ 1 := by omega
  have hz0 : ((0 : Int) == (n : Int)) = false := by simp; omega
  have HB := Lib.hid (balloc9 (o := .cells #[.int .u8 66, .int .u8 87, .int .u8 49] 5 (3, 4)) (balloc9 (o := .cells #[.slice none 0 0, .slice none 0 0, .slice none 0 0, .slice none 0 0] 26) (Below.refl w.heap.size w)))
  go_enter Try.func15, Try.ntmps15
  go_wp2_with fail
  refine wp_loop_rounds 1 ?_
  rw [rounds_succ]
  go_wp2
  go_returns
  exact ⟨rfl, HB.out⟩
set_option maxRecDepth 100000 in
set_option maxHeartbeats 4000000 in
theorem rread_x1 (b off n c : Nat) (x : Int) (w : World) (hb : b < w.heap.size) (hn : 1 < n) (hn2 : n ≤ 8192) (s0 : w.cell? ⟨b, off + 0, none⟩ = some (.int .u8 66)) (s1 : w.cell? ⟨b, off + 1, none⟩ = some (.int .u8 x)) (hx : x ≠ 87) : Calls Try.prog 15 #[.slice (some ⟨b, off, none⟩) n c] w (Ret (.tuple #[noG, .int .i64 4]) w) := by
  have kc := kcG w
  have k0 : ((w.alloc (.cells #[.slice none 0 0, .slice none 0 0, .slice none 0 0, .slice none 0 0] 26)).alloc (.cells #[.int .u8 66, .int .u8 87, .int .u8 49] 5 (3, 4))).cell? ⟨w.heap.size + 1, 0, none⟩ = some (.int .u8 66) := litG w 0
  have k1 : ((w.alloc (.cells #[.slice none 0 0, .slice none 0 0, .slice none 0 0, .slice none 0 0] 26)).alloc (.cells #[.int .u8 66, .int .u8 87, .int .u8 49] 5 (3, 4))).cell? ⟨w.heap.size + 1, 1, none⟩ = some (.int .u8 87) := litG w 1
  have k2 : ((w.alloc (.cells #[.slice none 0 0, .slice none 0 0, .slice none 0 0, .slice none 0 0] 26)).alloc (.cells #[.int .u8 66, .int .u8 87, .int .u8 49] 5 (3, 4))).cell? ⟨w.heap.size + 1, 2, none⟩ = some (.int .u8 49) := litG w 2
  have m0 : ((w.alloc (.cells #[.slice none 0 0, .slice none 0 0, .slice none 0 0, .slice none 0 0] 26)).alloc (.cells #[.int .u8 66, .int .u8 87, .int .u8 49] 5 (3, 4))).cell? ⟨b, off, none⟩ = some (.int .u8 66) := oldG w hb s0
  have m1 : ((w.alloc (.cells #[.slice none 0 0, .slice none 0 0, .slice none 0 0, .slice none 0 0] 26)).alloc (.cells #[.int .u8 66, .int .u8 87, .int .u8 49] 5 (3, 4))).cell? ⟨b, off + 1, none⟩ = some (.int .u8 x) := oldG w hb s1
  have hxb : (x != 87) = true := by simpa using hx
  have hn1 : (n : Int) ≥ 2 := by omega
  have hz0 : ((0 : Int) == (n : Int)) = false := by simp; omega
  have hz1 : ((1 : Int) == (n : Int)) = false := by simp; omega
  have HB := Lib.hid (balloc9 (o := .cells #[.int .u8 66, .int .u8 87, .int .u8 49] 5 (3, 4)) (balloc9 (o := .cells #[.slice none 0 0, .slice none 0 0, .slice none 0 0, .slice none 0 0] 26) (Below.refl w.heap.size w)))
  go_enter Try.func15, Try.ntmps15
  go_wp2_with fail
  refine wp_loop_rounds 2 ?_
  rw [rounds_succ]
  go_wp2
  rw [rounds_succ]
  go_wp2
  go_returns
  exact ⟨rfl, HB.out⟩
set_option maxRecDepth 100000 in
set_option maxHeartbeats 4000000 in
theorem rread_x2 (b off n c : Nat) (x : Int) (w : World) (hb : b < w.heap.size) (hn : 2 < n) (hn2 : n ≤ 8192) (s0 : w.cell? ⟨b, off + 0, none⟩ = some (.int .u8 66)) (s1 : w.cell? ⟨b, off + 1, none⟩ = some (.int .u8 87)) (s2 : w.cell? ⟨b, off + 2, none⟩ = some (.int .u8 x)) (hx : x ≠ 49) : Calls Try.prog 15 #[.slice (some ⟨b, off, none⟩) n c] w (Ret (.tuple #[noG, .int .i64 4]) w) := by
  have kc := kcG w
  have k0 : ((w.alloc (.cells #[.slice none 0 0, .slice none 0 0, .slice none 0 0, .slice none 0 0] 26)).alloc (.cells #[.int .u8 66, .int .u8 87, .int .u8 49] 5 (3, 4))).cell? ⟨w.heap.size + 1, 0, none⟩ = some (.int .u8 66) := litG w 0
  have k1 : ((w.alloc (.cells #[.slice none 0 0, .slice none 0 0, .slice none 0 0, .slice none 0 0] 26)).alloc (.cells #[.int .u8 66, .int .u8 87, .int .u8 49] 5 (3, 4))).cell? ⟨w.heap.size + 1, 1, none⟩ = some (.int .u8 87) := litG w 1
  have k2 : ((w.alloc (.cells #[.slice none 0 0, .slice none 0 0, .slice none 0 0, .slice none 0 0] 26)).alloc (.cells #[.int .u8 66, .int .u8 87, .int .u8 49] 5 (3, 4))).cell? ⟨w.heap.size + 1, 2, none⟩ = some (.int .u8 49) := litG w 2
  have m0 : ((w.alloc (.cells #[.slice none 0 0, .slice none 0 0, .slice none 0 0, .slice none 0 0] 26)).alloc (.cells #[.int .u8 66, .int .u8 87, .int .u8 49] 5 (3, 4))).cell? ⟨b, off, none⟩ = some (.int .u8 66) := oldG w hb s0
  have m1 : ((w.alloc (.cells #[.slice none 0 0, .slice none 0 0, .slice none 0 0, .slice none 0 0] 26)).alloc (.cells #[.int .u8 66, .int .u8 87, .int .u8 49] 5 (3, 4))).cell? ⟨b, off + 1, none⟩ = some (.int .u8 87) := oldG w hb s1
  have m2 : ((w.alloc (.cells #[.slice none 0 0, .slice none 0 0, .slice none 0 0, .slice none 0 0] 26)).alloc (.cells #[.int .u8 66, .int .u8 87, .int .u8 49] 5 (3, 4))).cell? ⟨b, off + 2, none⟩ = some (.int .u8 x) := oldG w hb s2
  have hxb : (x != 49) = true := by simpa using hx
  have hn1 : (n : Int) ≥ 3 := by omega
  have hz0 : ((0 : Int) == (n : Int)) = false := by simp; omega
  have hz1 : ((1 : Int) == (n : Int)) = false := by simp; omega
  have hz2 : ((2 : Int) == (n : Int)) = false := by simp; omega
  have HB := Lib.hid (balloc9 (o := .cells #[.int .u8 66, .int .u8 87, .int .u8 49] 5 (3, 4)) (balloc9 (o := .cells #[.slice none 0 0, .slice none 0 0, .slice none 0 0, .slice none 0 0] 26) (Below.refl w.heap.size w)))
  go_enter Try.func15, Try.ntmps15
  go_wp2_with fail
  refine wp_loop_rounds 3 ?_
  rw [rounds_succ]
  go_wp2
  rw [rounds_succ]
  go_wp2
  rw [rounds_succ]
  go_wp2
  go_returns
  exact ⟨rfl, HB.out⟩
set_option maxRecDepth 100000 in
set_option maxHeartbeats 4000000 in
theorem rread_h1 (b off c : Nat) (w : World) (hb : b < w.heap.size) (s0 : w.cell? ⟨b, off + 0, none⟩ = some (.int .u8 66)) : Calls Try.prog 15 #[.slice (some ⟨b, off, none⟩) 1 c] w (Ret (.tuple #[noG, .int .i64 3]) w) := by
  have kc := kcG w
  have k0 : ((w.alloc (.cells #[.slice none 0 0, .slice none 0 0, .slice none 0 0, .slice none 0 0] 26)).alloc (.cells #[.int .u8 66, .int .u8 87, .int .u8 49] 5 (3, 4))).cell? ⟨w.heap.size + 1, 0, none⟩ = some (.int .u8 66) := litG w 0
  have k1 : ((w.alloc (.cells #[.slice none 0 0, .slice none 0 0, .slice none 0 0, .slice none 0 0] 26)).alloc (.cells #[.int .u8 66, .int .u8 87, .int .u8 49] 5 (3, 4))).cell? ⟨w.heap.size + 1, 1, none⟩ = some (.int .u8 87) := litG w 1
  have k2 : ((w.alloc (.cells #[.slice none 0 0, .slice none 0 0, .slice none 0 0, .slice none 0 0] 26)).alloc (.cells #[.int .u8 66, .int .u8 87, .int .u8 49] 5 (3, 4))).cell? ⟨w.heap.size + 1, 2, none⟩ = some (.int .u8 49) := litG w 2
  have m0 : ((w.alloc (.cells #[.slice none 0 0, .slice none 0 0, .slice none 0 0, .slice none 0 0] 26)).alloc (.cells #[.int .u8 66, .int .u8 87, .int .u8 49] 5 (3, 4))).cell? ⟨b, off, none⟩ = some (.int .u8 66) := oldG w hb s0
  have HB := Lib.hid (balloc9 (o := .cells #[.int .u8 66, .int .u8 87, .int .u8 49] 5 (3, 4)) (balloc9 (o := .cells #[.slice none 0 0, .slice none 0 0, .slice none 0 0, .slice none 0 0] 26) (Below.refl w.heap.size w)))
  go_enter Try.func15, Try.ntmps15
  go_wp2_with fail
  refine wp_loop_rounds 2 ?_
  rw [rounds_succ]
  go_wp2
  rw [rounds_succ]
  go_wp2
  go_returns
  exact ⟨rfl, HB.out⟩
set_option maxRecDepth 100000 in
set_option maxHeartbeats 4000000 in
theorem rread_h2 (b off c : Nat) (w : World) (hb : b < w.heap.size) (s0 : w.cell? ⟨b, off + 0, none⟩ = some (.int .u8 66)) (s1 : w.cell? ⟨b, off + 1, none⟩ = some (.int .u8 87)) : Calls Try.prog 15 #[.slice (some ⟨b, off, none⟩) 2 c] w (Ret (.tuple #[noG, .int .i64 3]) w) := by
  have kc := kcG w
  have k0 : ((w.alloc (.cells #[.slice none 0 0, .slice none 0 0, .slice none 0 0, .slice none 0 0] 26)).alloc (.cells #[.int .u8 66, .int .u8 87, .int .u8 49] 5 (3, 4))).cell? ⟨w.heap.size + 1, 0, none⟩ = some (.int .u8 66) := litG w 0
  have k1 : ((w.alloc (.cells #[.slice none 0 0, .slice none 0 0, .slice none 0 0, .slice none 0 0] 26)).alloc (.cells #[.int .u8 66, .int .u8 87, .int .u8 49] 5 (3, 4))).cell? ⟨w.heap.size + 1, 1, none⟩ = some (.int .u8 87) := litG w 1
  have k2 : ((w.alloc (.cells #[.slice none 0 0, .slice none 0 0, .slice none 0 0, .slice none 0 0] 26)).alloc (.cells #[.int .u8 66, .int .u8 87, .int .u8 49] 5 (3, 4))).cell? ⟨w.heap.size + 1, 2, none⟩ = some (.int .u8 49) := litG w 2
  have m0 : ((w.alloc (.cells #[.slice none 0 0, .slice none 0 0, .slice none 0 0, .slice none 0 0] 26)).alloc (.cells #[.int .u8 66, .int .u8 87, .int .u8 49] 5 (3, 4))).cell? ⟨b, off, none⟩ = some (.int .u8 66) := oldG w hb s0
  have m1 : ((w.alloc (.cells #[.slice none 0 0, .slice none 0 0, .slice none 0 0, .slice none 0 0] 26)).alloc (.cells #[.int .u8 66, .int .u8 87, .int .u8 49] 5 (3, 4))).cell? ⟨b, off + 1, none⟩ = some (.int .u8 87) := oldG w hb s1
  have HB := Lib.hid (balloc9 (o := .cells #[.int .u8 66, .int .u8 87, .int .u8 49] 5 (3, 4)) (balloc9 (o := .cells #[.slice none 0 0, .slice none 0 0, .slice none 0 0, .slice none 0 0] 26) (Below.refl w.heap.size w)))
  go_enter Try.func15, Try.ntmps15
  go_wp2_with fail
  refine wp_loop_rounds 3 ?_
  rw [rounds_succ]
  go_wp2
  rw [rounds_succ]
  go_wp2
  rw [rounds_succ]
  go_wp2
  go_returns
  exact ⟨rfl, HB.out⟩
end Go.Proofs.Ytdhmoiiagplbpaa
