/- Expressions as trees: how deep one is, whether two are the same, its parts; those that the law builds. Plain. -/
import Derived.Test.YtjnlimahcodomaaValueP
namespace Go.Proofs.Ytjnlimahcodomaa.ex
set_option linter.unusedVariables false
open val (V null)
/-- an expression -/
inductive Ex where
  | mk (k op : Int) (v : V) (tb nm : ByteArray) (l : List Ex)
def Ex.k : Ex → Int | .mk k _ _ _ _ _ => k
def Ex.op : Ex → Int | .mk _ op _ _ _ _ => op
def Ex.v : Ex → V | .mk _ _ v _ _ _ => v
def Ex.tb : Ex → ByteArray | .mk _ _ _ tb _ _ => tb
def Ex.nm : Ex → ByteArray | .mk _ _ _ _ nm _ => nm
def Ex.l : Ex → List Ex | .mk _ _ _ _ _ l => l
theorem Ex.ind {P : Ex → Prop} (h : ∀ k op v tb nm l, (∀ x ∈ l, P x) → P (.mk k op v tb nm l)) : ∀ e, P e
  | .mk k op v tb nm l => h k op v tb nm l (fun x hx => Ex.ind h x)
mutual
def Ex.depth : Ex → Nat
  | .mk _ _ _ _ _ l => depthL l + 1
def depthL : List Ex → Nat
  | [] => 0
  | x :: l => max x.depth (depthL l)
end
theorem depthL_le {l : List Ex} {x : Ex} (h : x ∈ l) : x.depth ≤ depthL l := by
  induction l with
  | nil => cases h
  | cons a l ih =>
    unfold depthL
    rcases List.mem_cons.1 h with rfl | h
    · omega
    · have := ih h; omega
theorem depthL_snoc (l : List Ex) (x : Ex) : depthL (l ++ [x]) = max (depthL l) x.depth := by
  induction l with
  | nil => simp [depthL]
  | cons a l ih => simp only [List.cons_append, depthL, ih]; omega
theorem Ex.depth_eq (e : Ex) : e.depth = depthL e.l + 1 := by cases e; rfl
/-- an empty one of a kind -/
def leaf1 : Ex := .mk 1 0 null ByteArray.empty ByteArray.empty []
/-- the children that a builder makes, one after the other -/
def kids (g : Nat → Ex × Nat) : Nat → Nat → List Ex × Nat
  | 0, at_ => ([], at_)
  | n + 1, at_ => ((kids g n at_).1 ++ [(g (kids g n at_).2).1], (g (kids g n at_).2).2)
theorem kids_len (g : Nat → Ex × Nat) (n at_ : Nat) : (kids g n at_).1.length = n := by
  induction n with
  | zero => rfl
  | succ n ih => simp [kids, ih]
mutual
/-- all parts, itself first -/
def Ex.parts : Ex → List Ex
  | .mk k op v tb nm l => .mk k op v tb nm l :: partsL l
def partsL : List Ex → List Ex
  | [] => []
  | x :: l => x.parts ++ partsL l
end
theorem partsL_snoc (l : List Ex) (x : Ex) : partsL (l ++ [x]) = partsL l ++ x.parts := by
  induction l with
  | nil => simp [partsL]
  | cons a l ih => simp only [List.cons_append, partsL, ih, List.append_assoc]
theorem Ex.parts_eq (e : Ex) : e.parts = e :: partsL e.l := by cases e; rfl
theorem partsL_flat (l : List Ex) : partsL l = l.flatMap Ex.parts := by
  induction l with
  | nil => rfl
  | cons a l ih => simp [partsL, ih]
/-- a part as plain data -/
structure Pt where
  k : Int
  op : Int
  vk : Int
  n : Int
  x : Int
  nm : ByteArray
  tb : ByteArray
def PB (x : Pt) : Prop := (0 ≤ x.k ∧ x.k ≤ 255) ∧ (0 ≤ x.op ∧ x.op ≤ 255) ∧ (0 ≤ x.vk ∧ x.vk ≤ 255) ∧ (0 ≤ x.n ∧ x.n ≤ 255) ∧ (-9223372036854775808 ≤ x.x ∧ x.x ≤ 9223372036854775807) ∧ x.nm.size ≤ maxLen ∧ x.tb.size ≤ maxLen
/-- a text cut -/
def cut (s : ByteArray) (m : Nat) : ByteArray := s.extract 0 (min s.size m)
theorem cut_size (s : ByteArray) (m : Nat) : (cut s m).size ≤ m := by unfold cut; rw [ByteArray.size_extract]; omega
/-- the value of a part -/
def Pt.val (x : Pt) : V :=
  if x.k % 10 = 1 ∨ 250 ≤ x.k then
    if x.vk % 5 = 1 then ⟨1, x.x % 2, ByteArray.empty⟩ else if x.vk % 5 = 2 then ⟨2, x.x, ByteArray.empty⟩ else if x.vk % 5 = 3 then ⟨3, 0, cut x.nm 70⟩ else ⟨x.vk % 5, 0, ByteArray.empty⟩
  else null
def Pt.named (x : Pt) : Prop := x.k % 10 = 2 ∨ 250 ≤ x.k
instance (x : Pt) : Decidable x.named := by unfold Pt.named; infer_instance
def Pt.opr (x : Pt) : Int := if x.k % 10 = 3 then x.op % 16 else if x.k % 10 = 8 then x.op % 6 else 0
/-- how many parts it takes -/
def Pt.num (x : Pt) : Int :=
  if 240 ≤ x.k then x.n % 4
  else if x.k % 10 = 3 then 2 else if 4 ≤ x.k % 10 ∧ x.k % 10 ≤ 7 then 1 else if x.k % 10 = 8 then x.n % 2 else if x.k % 10 = 1 ∨ x.k % 10 = 2 then 0 else x.n % 3
theorem Pt.num_le {x : Pt} (h : PB x) : 0 ≤ x.num ∧ x.num ≤ 3 := by
  obtain ⟨h1, h2, h3, h4, h5, h6, h7⟩ := h
  unfold Pt.num
  repeat' split
  all_goals omega
def Pt.ex (x : Pt) (l : List Ex) : Ex := .mk (x.k % 10) x.opr x.val (if x.named then cut x.tb 20 else ByteArray.empty) (if x.named then cut x.nm 20 else ByteArray.empty) l
/-- the expression of a list of parts, and the place behind it -/
def builtF (ps : List Pt) : Nat → Nat → Ex × Nat
  | 0, a => (leaf1, a + 1)
  | f + 1, a => match ps[a]? with
    | none => (leaf1, a + 1)
    | some x => (x.ex (kids (builtF ps f) x.num.toNat (a + 1)).1, (kids (builtF ps f) x.num.toNat (a + 1)).2)
end Go.Proofs.Ytjnlimahcodomaa.ex
