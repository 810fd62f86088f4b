/- graphs (GV), their bytes (putG), what is read from bytes (readG); plain facts of both -/
import Derived.Test.YtdhmoiiagplbpaaVa
namespace Go.Proofs.Ytdhmoiiagplbpaa
open Go.RowKit
set_option linter.unusedVariables false
set_option linter.unusedSimpArgs false

structure GN where
  kind : Int
  scope : Int
  arg : Int
  prog : List NV
instance : Inhabited GN := ⟨⟨0, 0, 0, []⟩⟩
structure GE where
  src : Int
  dst : Int
  port : Int
  ex : Bool
instance : Inhabited GE := ⟨⟨0, 0, 0, false⟩⟩
structure GV where
  parent : List Int
  bound : List Int
  nodes : List GN
  edges : List GE
instance : Inhabited GV := ⟨⟨[], [], [], []⟩⟩
instance : DecidableEq NV := fun a b => if h : a.op = b.op ∧ a.n = b.n then isTrue (by cases a; cases b; simp at h; simp [h]) else isFalse (fun e => h (by rw [e]; exact ⟨rfl, rfl⟩))
instance : DecidableEq GN := fun a b => if h : a.kind = b.kind ∧ a.scope = b.scope ∧ a.arg = b.arg ∧ a.prog = b.prog then isTrue (by cases a; cases b; simp at h; simp [h]) else isFalse (fun e => h (by rw [e]; exact ⟨rfl, rfl, rfl, rfl⟩))
instance : DecidableEq GE := fun a b => if h : a.src = b.src ∧ a.dst = b.dst ∧ a.port = b.port ∧ a.ex = b.ex then isTrue (by cases a; cases b; simp at h; simp [h]) else isFalse (fun e => h (by rw [e]; exact ⟨rfl, rfl, rfl, rfl⟩))
instance : DecidableEq GV := fun a b => if h : a.parent = b.parent ∧ a.bound = b.bound ∧ a.nodes = b.nodes ∧ a.edges = b.edges then isTrue (by cases a; cases b; simp at h; simp [h]) else isFalse (fun e => h (by rw [e]; exact ⟨rfl, rfl, rfl, rfl⟩))

def lowN (n : Int) : Prop := 0 ≤ n ∧ n ≤ 2147483647
instance (n : Int) : Decidable (lowN n) := by unfold lowN; infer_instance
def fitsN (x : GN) : Prop := lowN x.kind ∧ lowN x.scope ∧ x.prog.length ≤ 64 ∧ ∀ y ∈ x.prog, lowN y.op
instance (x : GN) : Decidable (fitsN x) := by unfold fitsN; infer_instance
def fitsE (e : GE) : Prop := lowN e.src ∧ lowN e.dst ∧ lowN e.port
instance (e : GE) : Decidable (fitsE e) := by unfold fitsE; infer_instance
/-- can it be put? -/
def fitsG (g : GV) : Prop := 1 ≤ g.parent.length ∧ g.parent.length ≤ 8 ∧ g.parent.length = g.bound.length ∧ g.nodes.length ≤ 32 ∧ g.edges.length ≤ 64 ∧ g.parent[0]! = -1 ∧ g.bound[0]! = 0 ∧ (∀ x ∈ g.parent.tail, lowN x) ∧ (∀ x ∈ g.bound.tail, lowN x) ∧ (∀ x ∈ g.nodes, fitsN x) ∧ (∀ e ∈ g.edges, fitsE e)
instance (g : GV) : Decidable (fitsG g) := by unfold fitsG; infer_instance
/-- its numbers have room in 64 bits -/
def okN (x : GN) : Prop := inR x.arg ∧ ∀ y ∈ x.prog, inR y.n
def okG (g : GV) : Prop := ∀ x ∈ g.nodes, okN x

def intR : List Int → Rd Int := mapR (fun n : Nat => (n : Int)) (numR 0 2147483647 2)
theorem codec_int : Codec intR (fun n => bytesOf n.toNat) lowN := by
  refine (codec_num 0 2147483647 2 (by decide)).map _ Int.toNat lowN (fun a _ => Int.toNat_natCast a) (fun a h => ?_) (fun b h => ?_)
  · unfold lowN; omega
  · unfold lowN at h; omega
def insR : List Int → Rd NV := mapR (fun x : Int × Int => NV.mk x.1 x.2) (pairR intR sgnR)
def putI (x : NV) : List Int := bytesOf x.op.toNat ++ bytesOf (zig x.n)
theorem codec_ins : Codec insR putI (fun x => lowN x.op ∧ inR x.n) :=
  (codec_int.pair codec_sgn).map _ (fun x : NV => (x.op, x.n)) _ (fun a _ => rfl) (fun a h => h) (fun b h => ⟨h, rfl⟩)
def nodeR : List Int → Rd GN := mapR (fun x : Int × Int × Int × List NV => GN.mk x.1 x.2.1 x.2.2.1 x.2.2.2) (pairR intR (pairR intR (pairR sgnR (countR 0 64 0 insR))))
def putN (x : GN) : List Int := bytesOf x.kind.toNat ++ (bytesOf x.scope.toNat ++ (bytesOf (zig x.arg) ++ (bytesOf (x.prog.length + 0) ++ x.prog.flatMap putI)))
theorem codec_node : Codec nodeR putN (fun x => fitsN x ∧ okN x) := by
  refine (codec_int.pair (codec_int.pair (codec_sgn.pair (codec_ins.count 0 64 0 (Nat.le_refl _) (by decide))))).map _ (fun x : GN => (x.kind, x.scope, x.arg, x.prog)) _ (fun a _ => rfl) (fun a h => ?_) (fun b h => ⟨?_, rfl⟩)
  · obtain ⟨h1, h2, h3, _, h4, h5⟩ := h
    exact ⟨⟨h1, h2, h4, fun y hy => (h5 y hy).1⟩, h3, fun y hy => (h5 y hy).2⟩
  · obtain ⟨⟨h1, h2, h3, h4⟩, h5, h6⟩ := h
    exact ⟨h1, h2, h5, Nat.zero_le _, h3, fun y hy => ⟨h4 y hy, h6 y hy⟩⟩
def bitN (b : Bool) : Nat := if b = true then 1 else 0
def edgeR : List Int → Rd GE := mapR (fun x : Int × Int × Int × Nat => GE.mk x.1 x.2.1 x.2.2.1 (x.2.2.2 == 1)) (pairR intR (pairR intR (pairR intR (numR 0 1 4))))
def putE (e : GE) : List Int := bytesOf e.src.toNat ++ (bytesOf e.dst.toNat ++ (bytesOf e.port.toNat ++ bytesOf (bitN e.ex)))
theorem codec_edge : Codec edgeR putE fitsE := by
  refine (codec_int.pair (codec_int.pair (codec_int.pair (codec_num 0 1 4 (by decide))))).map _ (fun e : GE => (e.src, e.dst, e.port, bitN e.ex)) _ (fun a h => ?_) (fun a h => ⟨h.1, h.2.1, h.2.2.1⟩) (fun b h => ⟨⟨h.1, h.2.1, h.2.2, ?_⟩, ?_⟩)
  · obtain ⟨a1, a2, a3, n⟩ := a
    have hn : n ≤ 1 := h.2.2.2.2
    have : bitN (n == 1) = n := by
      unfold bitN
      rcases (by omega : n = 0 ∨ n = 1) with rfl | rfl <;> rfl
    simp [this]
  · show 0 ≤ bitN b.ex ∧ bitN b.ex ≤ 1
    unfold bitN
    split <;> omega
  · obtain ⟨b1, b2, b3, b4⟩ := b
    cases b4 <;> rfl
def scopeR : List Int → Rd (Int × Int) := pairR intR intR
def putS (x : Int × Int) : List Int := bytesOf x.1.toNat ++ bytesOf x.2.toNat
theorem codec_scope : Codec scopeR putS (fun x => lowN x.1 ∧ lowN x.2) := codec_int.pair codec_int
def headR : List Int → Rd Unit
  | [] => .error 3
  | a :: xs => if a ≠ 66 then .error 4 else match xs with
    | [] => .error 3
    | b :: ys => if b ≠ 87 then .error 4 else match ys with
      | [] => .error 3
      | c :: zs => if c ≠ 49 then .error 4 else .ok ((), zs)
theorem codec_head : Codec headR (fun _ => [66, 87, 49]) (fun _ => True) where
  okb := fun _ _ x hx => by
    simp at hx
    rcases hx with rfl | rfl | rfl <;> decide
  put := fun a rest _ => by cases a; rfl
  get := fun xs a rest _ h => by
    cases xs with
    | nil => cases h
    | cons x xs =>
      unfold headR at h
      simp only at h
      by_cases hx : x ≠ 66
      · rw [if_pos hx] at h; cases h
      · rw [if_neg hx] at h
        cases xs with
        | nil => cases h
        | cons y ys =>
          simp only at h
          by_cases hy : y ≠ 87
          · rw [if_pos hy] at h; cases h
          · rw [if_neg hy] at h
            cases ys with
            | nil => cases h
            | cons z zs =>
              simp only at h
              by_cases hz : z ≠ 49
              · rw [if_pos hz] at h; cases h
              · rw [if_neg hz] at h
                injection h with h
                obtain ⟨_, rfl⟩ := Prod.mk.inj h
                have e1 : x = 66 := by omega
                have e2 : y = 87 := by omega
                have e3 : z = 49 := by omega
                subst e1; subst e2; subst e3
                exact ⟨trivial, rfl⟩
  cut := fun a j _ hj => by
    have hj : j < 3 := hj
    rcases (by omega : j = 0 ∨ j = 1 ∨ j = 2) with rfl | rfl | rfl <;> rfl
abbrev GT := Unit × List (Int × Int) × List GN × List GE
def mkG (x : GT) : GV := ⟨-1 :: x.2.1.map Prod.fst, 0 :: x.2.1.map Prod.snd, x.2.2.1, x.2.2.2⟩
def unG (g : GV) : GT := ((), g.parent.tail.zip g.bound.tail, g.nodes, g.edges)
def partsR : List Int → Rd GT := pairR headR (pairR (countR 1 8 1 scopeR) (pairR (countR 0 32 0 nodeR) (countR 0 64 0 edgeR)))
def putT (x : GT) : List Int := [66, 87, 49] ++ ((bytesOf (x.2.1.length + 1) ++ x.2.1.flatMap putS) ++ ((bytesOf (x.2.2.1.length + 0) ++ x.2.2.1.flatMap putN) ++ (bytesOf (x.2.2.2.length + 0) ++ x.2.2.2.flatMap putE)))
def bodyR : List Int → Rd GV := mapR mkG partsR
def putG (g : GV) : List Int := putT (unG g)
theorem head_tail {xs : List Int} {a : Int} (h : 1 ≤ xs.length) (h0 : xs[0]! = a) : xs = a :: xs.tail := by
  cases xs with
  | nil => simp at h
  | cons x xs => simp at h0; subst h0; rfl
theorem zip_fst : ∀ (xs ys : List Int), xs.length = ys.length → (xs.zip ys).map Prod.fst = xs
  | [], [], _ => rfl
  | x :: xs, y :: ys, h => by rw [List.zip_cons_cons, List.map_cons, zip_fst xs ys (by simpa using h)]
theorem zip_snd : ∀ (xs ys : List Int), xs.length = ys.length → (xs.zip ys).map Prod.snd = ys
  | [], [], _ => rfl
  | x :: xs, y :: ys, h => by rw [List.zip_cons_cons, List.map_cons, zip_snd xs ys (by simpa using h)]
theorem zip_back : ∀ (l : List (Int × Int)), (l.map Prod.fst).zip (l.map Prod.snd) = l
  | [] => rfl
  | (a, b) :: l => by rw [List.map_cons, List.map_cons, List.zip_cons_cons, zip_back l]
theorem codec_body : Codec bodyR putG (fun g => fitsG g ∧ okG g) := by
  refine (codec_head.pair ((codec_scope.count 1 8 1 (Nat.le_refl _) (by decide)).pair ((codec_node.count 0 32 0 (Nat.le_refl _) (by decide)).pair (codec_edge.count 0 64 0 (Nat.le_refl _) (by decide))))).map mkG unG _ (fun a h => ?_) (fun a h => ?_) (fun g h => ⟨?_, ?_⟩)
  · obtain ⟨⟨⟩, s, n, e⟩ := a
    unfold unG mkG
    simp [zip_back]
  · obtain ⟨⟨⟩, s, n, e⟩ := a
    obtain ⟨_, ⟨s1, s2, s3⟩, ⟨n1, n2, n3⟩, ⟨e1, e2, e3⟩⟩ := h
    refine ⟨⟨?_, ?_, ?_, n2, e2, rfl, rfl, ?_, ?_, fun x hx => (n3 x hx).1, e3⟩, fun x hx => (n3 x hx).2⟩
    · show 1 ≤ (-1 :: s.map Prod.fst).length; simp
    · show (-1 :: s.map Prod.fst).length ≤ 8
      rw [List.length_cons, List.length_map]; exact s2
    · show (-1 :: s.map Prod.fst).length = (0 :: s.map Prod.snd).length
      simp
    · intro x hx
      obtain ⟨y, hy, rfl⟩ := List.mem_map.1 (show x ∈ s.map Prod.fst from hx)
      exact (s3 y hy).1
    · intro x hx
      obtain ⟨y, hy, rfl⟩ := List.mem_map.1 (show x ∈ s.map Prod.snd from hx)
      exact (s3 y hy).2
  · obtain ⟨⟨h1, h2, h3, h4, h5, h6, h7, h8, h9, h10, h11⟩, h12⟩ := h
    refine ⟨trivial, ⟨?_, ?_, ?_⟩, ⟨Nat.zero_le _, h4, fun x hx => ⟨h10 x hx, h12 x hx⟩⟩, ⟨Nat.zero_le _, h5, h11⟩⟩
    · omega
    · show (g.parent.tail.zip g.bound.tail).length + 1 ≤ 8
      rw [List.length_zip, List.length_tail, List.length_tail]; omega
    · intro x hx
      obtain ⟨x1, x2⟩ := x
      have := List.of_mem_zip hx
      exact ⟨h8 _ this.1, h9 _ this.2⟩
  · obtain ⟨⟨h1, h2, h3, h4, h5, h6, h7, h8, h9, h10, h11⟩, h12⟩ := h
    obtain ⟨p, b, n, e⟩ := g
    simp only at h1 h2 h3 h6 h7
    have hl : p.tail.length = b.tail.length := by rw [List.length_tail, List.length_tail, h3]
    show mkG ((), p.tail.zip b.tail, n, e) = _
    unfold mkG
    simp only
    rw [zip_fst _ _ hl, zip_snd _ _ hl, ← head_tail h1 h6, ← head_tail (by omega) h7]
/-- what is read from bytes -/
def readG (b : List Int) : Except Nat GV :=
  if 8192 < b.length then .error 11 else match bodyR b with
    | .error e => .error e
    | .ok (g, r) => if r = [] then .ok g else .error 4
theorem read_back {b : List Int} {g : GV} (hb : okB b) (h : readG b = .ok g) : fitsG g ∧ okG g ∧ putG g = b ∧ b.length ≤ 8192 := by
  unfold readG at h
  split at h
  · cases h
  · rename_i hl
    generalize hr : bodyR b = r at h
    cases r with
    | error e => cases h
    | ok r =>
      obtain ⟨g1, r1⟩ := r
      simp only at h
      split at h
      · rename_i hn
        injection h with h
        subst h
        subst hn
        obtain ⟨⟨h1, h2⟩, h3⟩ := codec_body.get b g1 [] hb hr
        exact ⟨h1, h2, by rw [h3, List.append_nil], by omega⟩
      · cases h
theorem put_back {g : GV} (h : fitsG g) (h2 : okG g) : readG (putG g) = if 8192 < (putG g).length then .error 11 else .ok g := by
  unfold readG
  split
  · rfl
  · have := codec_body.put g [] ⟨h, h2⟩
    rw [List.append_nil] at this
    rw [this]
    rfl
theorem cut_back {g : GV} (h : fitsG g) (h2 : okG g) (hl : (putG g).length < 8192) {j : Nat} (hj : j < (putG g).length) : readG ((putG g).take j) = .error 3 := by
  unfold readG
  rw [if_neg (by rw [List.length_take]; omega), codec_body.cut g j ⟨h, h2⟩ hj]
theorem more_back {g : GV} (h : fitsG g) (h2 : okG g) (hl : (putG g).length < 8192) (m : Int) : readG (putG g ++ [m]) = .error 4 := by
  unfold readG
  rw [if_neg (by rw [List.length_append, List.length_singleton]; omega), codec_body.put g [m] ⟨h, h2⟩]
  rfl
theorem putG_ok {g : GV} (h : fitsG g) (h2 : okG g) : okB (putG g) := codec_body.okb g ⟨h, h2⟩
end Go.Proofs.Ytdhmoiiagplbpaa
