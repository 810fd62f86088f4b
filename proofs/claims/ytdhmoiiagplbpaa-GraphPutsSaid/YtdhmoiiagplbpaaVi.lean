/- what is put of a graph: how long it is, piece by piece -/
import Derived.Test.YtdhmoiiagplbpaaVb
namespace Go.Proofs.Ytdhmoiiagplbpaa
open Go.RowKit
set_option linter.unusedVariables false
set_option linter.unusedSimpArgs false

theorem flat_len {α : Type} (p : α → List Int) (c : Nat) : ∀ (l : List α), (∀ a ∈ l, (p a).length ≤ c) → (l.flatMap p).length ≤ l.length * c
  | [], _ => by simp
  | a :: l, h => by
    have h1 := h a (by simp)
    have h2 := flat_len p c l (fun b hb => h b (by simp [hb]))
    rw [List.flatMap_cons, List.length_append, List.length_cons, Nat.add_mul]
    omega
theorem low_len {n : Int} (h : lowN n) : (bytesOf n.toNat).length ≤ 10 := bytes_len10 (by unfold lowN at h; omega)
theorem zig_len {n : Int} (h : inR n) : (bytesOf (zig n)).length ≤ 10 := bytes_len10 (zig_lt h.1 h.2)
theorem putG_len {g : GV} (h : fitsG g) (h2 : okG g) : (putG g).length ≤ 50000 := by
  have hw := codec_body
  obtain ⟨h1, h3, h4, h5, h6, h7, h8, h9, h10, h11, h12⟩ := h
  have hS : ((g.parent.tail.zip g.bound.tail).flatMap putS).length ≤ (g.parent.tail.zip g.bound.tail).length * 20 := flat_len putS 20 _ (fun a ha => by
    obtain ⟨a1, a2⟩ := a
    have hm := List.of_mem_zip ha
    have e1 := low_len (h9 _ hm.1)
    have e2 := low_len (h10 _ hm.2)
    unfold putS
    rw [List.length_append]
    simp only
    omega)
  have hI : ∀ (x : GN), x ∈ g.nodes → (x.prog.flatMap putI).length ≤ 64 * 20 := fun x hx => by
    have := flat_len putI 20 x.prog (fun a ha => by
      have e1 := low_len ((h11 x hx).2.2.2 a ha)
      have e2 := zig_len ((h2 x hx).2 a ha)
      unfold putI
      rw [List.length_append]
      omega)
    exact Nat.le_trans this (Nat.mul_le_mul_right _ (h11 x hx).2.2.1)
  have hN : (g.nodes.flatMap putN).length ≤ g.nodes.length * 1320 := flat_len putN 1320 _ (fun x hx => by
    have e1 := low_len (h11 x hx).1
    have e2 := low_len (h11 x hx).2.1
    have e3 := zig_len (h2 x hx).1
    have e4 := bytes_len10 (n := x.prog.length + 0) (by have := (h11 x hx).2.2.1; omega)
    have e5 := hI x hx
    unfold putN
    rw [List.length_append, List.length_append, List.length_append, List.length_append]
    omega)
  have hE : (g.edges.flatMap putE).length ≤ g.edges.length * 40 := flat_len putE 40 _ (fun x hx => by
    have e1 := low_len (h12 x hx).1
    have e2 := low_len (h12 x hx).2.1
    have e3 := low_len (h12 x hx).2.2
    have e4 := bytes_len10 (n := bitN x.ex) (by unfold bitN; split <;> omega)
    unfold putE
    rw [List.length_append, List.length_append, List.length_append]
    omega)
  have hz : (g.parent.tail.zip g.bound.tail).length ≤ 7 := by rw [List.length_zip, List.length_tail, List.length_tail]; omega
  have e1 := bytes_len10 (n := (g.parent.tail.zip g.bound.tail).length + 1) (by omega)
  have e2 := bytes_len10 (n := g.nodes.length + 0) (by omega)
  have e3 := bytes_len10 (n := g.edges.length + 0) (by omega)
  unfold putG putT unG
  simp only [List.length_append, List.length_cons, List.length_nil]
  omega
/-- what is still to be put: behind the first scopes, nodes, instructions, edges -/
def tailE (g : GV) (k : Nat) : List Int := (g.edges.drop k).flatMap putE
def tailN (g : GV) (k : Nat) : List Int := (g.nodes.drop k).flatMap putN ++ (bytesOf g.edges.length ++ tailE g 0)
def tailI (g : GV) (k : Nat) (x : GN) (i : Nat) : List Int := (x.prog.drop i).flatMap putI ++ tailN g (k + 1)
def tailS (g : GV) (k : Nat) : List Int := ((g.parent.tail.zip g.bound.tail).drop k).flatMap putS ++ (bytesOf g.nodes.length ++ tailN g 0)
theorem putG_start {g : GV} (h : fitsG g) : putG g = [66, 87, 49] ++ (bytesOf g.parent.length ++ tailS g 0) := by
  have hl : (g.parent.tail.zip g.bound.tail).length + 1 = g.parent.length := by
    obtain ⟨h1, h3, h4, _⟩ := h
    rw [List.length_zip, List.length_tail, List.length_tail]; omega
  unfold putG putT unG tailS tailN tailE
  simp only [List.drop_zero, Nat.add_zero, hl, List.append_assoc]
theorem zip_at {xs ys : List Int} {j : Nat} (h1 : j < xs.length) (h2 : j < ys.length) : (xs.zip ys)[j]! = (xs[j]!, ys[j]!) := by
  rw [getElem!_pos _ j (by rw [List.length_zip]; omega), getElem!_pos xs j h1, getElem!_pos ys j h2, List.getElem_zip]
theorem tail_get {xs : List Int} {j : Nat} (h : j + 1 < xs.length) : xs.tail[j]! = xs[j + 1]! := by
  cases xs with
  | nil => simp at h
  | cons a xs => rw [getElem!_pos (a :: xs) (j + 1) h, getElem!_pos (a :: xs).tail j (by simpa using h)]; rfl
theorem tailS_step {g : GV} (hl : g.parent.length = g.bound.length) {j : Nat} (h : j + 1 < g.parent.length) : tailS g j = bytesOf g.parent[j + 1]!.toNat ++ (bytesOf g.bound[j + 1]!.toNat ++ tailS g (j + 1)) := by
  have hz : j < (g.parent.tail.zip g.bound.tail).length := by rw [List.length_zip, List.length_tail, List.length_tail]; omega
  unfold tailS
  rw [List.drop_eq_getElem_cons hz, List.flatMap_cons, ← getElem!_pos _ j hz, zip_at (by rw [List.length_tail]; omega) (by rw [List.length_tail]; omega), tail_get h, tail_get (by omega)]
  unfold putS
  simp only [List.append_assoc]
theorem tailS_end {g : GV} (h1 : 1 ≤ g.parent.length) (hl : g.parent.length = g.bound.length) : tailS g (g.parent.length - 1) = bytesOf g.nodes.length ++ tailN g 0 := by
  unfold tailS
  rw [List.drop_of_length_le (by rw [List.length_zip, List.length_tail, List.length_tail]; omega)]
  rfl
theorem tailN_step {g : GV} {k : Nat} (h : k < g.nodes.length) : tailN g k = bytesOf g.nodes[k]!.kind.toNat ++ (bytesOf g.nodes[k]!.scope.toNat ++ (bytesOf (zig g.nodes[k]!.arg) ++ (bytesOf g.nodes[k]!.prog.length ++ tailI g k g.nodes[k]! 0))) := by
  unfold tailI
  rw [tailN, List.drop_eq_getElem_cons h, List.flatMap_cons, ← getElem!_pos _ k h, tailN]
  unfold putN
  simp only [List.drop_zero, Nat.add_zero, List.append_assoc]
theorem tailN_end (g : GV) : tailN g g.nodes.length = bytesOf g.edges.length ++ tailE g 0 := by
  unfold tailN
  rw [List.drop_length]
  rfl
theorem tailI_step {g : GV} {k : Nat} {x : GN} {i : Nat} (h : i < x.prog.length) : tailI g k x i = bytesOf x.prog[i]!.op.toNat ++ (bytesOf (zig x.prog[i]!.n) ++ tailI g k x (i + 1)) := by
  unfold tailI
  rw [List.drop_eq_getElem_cons h, List.flatMap_cons, ← getElem!_pos _ i h]
  unfold putI
  simp only [List.append_assoc]
theorem tailI_end (g : GV) (k : Nat) (x : GN) : tailI g k x x.prog.length = tailN g (k + 1) := by
  unfold tailI
  rw [List.drop_length]
  rfl
theorem tailE_step {g : GV} {k : Nat} (h : k < g.edges.length) : tailE g k = bytesOf g.edges[k]!.src.toNat ++ (bytesOf g.edges[k]!.dst.toNat ++ (bytesOf g.edges[k]!.port.toNat ++ ([(bitN g.edges[k]!.ex : Int)] ++ tailE g (k + 1)))) := by
  have hb : bytesOf (bitN g.edges[k]!.ex) = [(bitN g.edges[k]!.ex : Int)] := bytes_lo (by unfold bitN; split <;> omega)
  unfold tailE
  rw [List.drop_eq_getElem_cons h, List.flatMap_cons, ← getElem!_pos _ k h]
  unfold putE
  rw [hb]
  simp only [List.append_assoc]
theorem tailE_end (g : GV) : tailE g g.edges.length = [] := by
  unfold tailE
  rw [List.drop_length]
  rfl
end Go.Proofs.Ytdhmoiiagplbpaa
