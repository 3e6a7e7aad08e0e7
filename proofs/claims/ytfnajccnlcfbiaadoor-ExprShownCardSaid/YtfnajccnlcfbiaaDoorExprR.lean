/- How an expression is shown. Plain. -/
import Derived.Test.YtfnajccnlcfbiaaDoorExprN
import Derived.Test.YtfnajccnlcfbiaaDoorJBC
import Derived.Lib.ItoaLen
namespace Go.Proofs.YtfnajccnlcfbiaaDoor.ex
set_option linter.unusedVariables false
open val (V null showV)
def signT : List (List UInt8) := [[], [61], [60, 62], [60], [60, 61], [62], [62, 61], [43], [45], [42], [47], [37], [124, 124], [65, 78, 68], [79, 82]]
def nameT : List (List UInt8) := [[], [67, 79, 85, 78, 84], [83, 85, 77], [77, 73, 78], [77, 65, 88]]
def signE (op : Int) : ByteArray := ⟨(signT.getD op.toNat []).toArray⟩
def nameE (op : Int) : ByteArray := ⟨(nameT.getD op.toNat []).toArray⟩
/-- a node's text out of its parts' -/
def glue (k op : Int) (v : V) (tb nm : ByteArray) (ss : List ByteArray) : ByteArray :=
  if k = 1 then showV v.k v.n v.s
  else if k = 2 then (if tb.toList.isEmpty then nm else tb ++ ⟨#[46]⟩ ++ nm)
  else if k = 3 then ⟨#[40]⟩ ++ ss.getD 0 ByteArray.empty ++ ⟨#[32]⟩ ++ signE op ++ ⟨#[32]⟩ ++ ss.getD 1 ByteArray.empty ++ ⟨#[41]⟩
  else if k = 4 then ⟨#[40, 78, 79, 84, 32]⟩ ++ ss.getD 0 ByteArray.empty ++ ⟨#[41]⟩
  else if k = 5 then ⟨#[40, 45, 32]⟩ ++ ss.getD 0 ByteArray.empty ++ ⟨#[41]⟩
  else if k = 6 then ⟨#[40]⟩ ++ ss.getD 0 ByteArray.empty ++ ⟨#[32, 73, 83, 32, 78, 85, 76, 76, 41]⟩
  else if k = 7 then ⟨#[40]⟩ ++ ss.getD 0 ByteArray.empty ++ ⟨#[32, 73, 83, 32, 78, 79, 84, 32, 78, 85, 76, 76, 41]⟩
  else if ss.length = 0 then ⟨#[67, 79, 85, 78, 84, 40, 42, 41]⟩
  else nameE op ++ ⟨#[40]⟩ ++ ss.getD 0 ByteArray.empty ++ ⟨#[41]⟩
mutual
def showE : Ex → ByteArray
  | .mk k op v tb nm l => glue k op v tb nm (showEs l)
def showEs : List Ex → List ByteArray
  | [] => []
  | x :: l => showE x :: showEs l
end
theorem showEs_map (l : List Ex) : showEs l = l.map showE := by
  induction l with
  | nil => rfl
  | cons a l ih => simp [showEs, ih]
theorem showE_eq (e : Ex) : showE e = glue e.k e.op e.v e.tb e.nm (e.l.map showE) := by
  cases e
  conv => lhs; unfold showE
  rw [showEs_map]; rfl
theorem signE_size (op : Int) : (signE op).size ≤ 3 := by
  have h : ∀ n : Nat, (signT.getD n []).length ≤ 3 := by
    intro n
    by_cases h : n < 15
    · have : ∀ m : Fin 15, (signT.getD m.val []).length ≤ 3 := by decide
      exact this ⟨n, h⟩
    · rw [List.getD_eq_getElem?_getD, List.getElem?_eq_none (by show 15 ≤ n; omega)]; decide
  unfold signE; exact h _
theorem nameE_size (op : Int) : (nameE op).size ≤ 5 := by
  have h : ∀ n : Nat, (nameT.getD n []).length ≤ 5 := by
    intro n
    by_cases h : n < 5
    · have : ∀ m : Fin 5, (nameT.getD m.val []).length ≤ 5 := by decide
      exact this ⟨n, h⟩
    · rw [List.getD_eq_getElem?_getD, List.getElem?_eq_none (by show 5 ≤ n; omega)]; decide
  unfold nameE; exact h _
theorem showV_size (k n : Int) (s : ByteArray) (hs : s.size ≤ 1000) (hn : -9223372036854775808 ≤ n ∧ n ≤ 9223372036854775807) : (showV k n s).size ≤ 3100 := by
  unfold showV
  have h1 : (val.quote s).size ≤ 3002 := by
    have := val.inner_len s
    unfold val.quote
    rw [ByteArray.size_append, ByteArray.size_append]
    have : val.q1.size = 1 := by decide
    omega
  have h2 := Lib.itoa_length_le n hn.1 hn.2
  have h3 : val.nullS.size ≤ 5 := by decide
  have h4 : val.trueS.size ≤ 5 := by decide
  have h5 : val.falseS.size ≤ 5 := by decide
  have h6 : (⟨(Lib.itoa n).toArray⟩ : ByteArray).size ≤ 21 := h2
  repeat' split
  all_goals omega
/-- the parts' texts together -/
def sumS (ss : List ByteArray) : Nat := (ss.map ByteArray.size).sum
theorem getD_sum (ss : List ByteArray) (i : Nat) : (ss.getD i ByteArray.empty).size ≤ sumS ss := by
  unfold sumS
  induction ss generalizing i with
  | nil => show (ByteArray.empty).size ≤ 0; decide
  | cons a l ih =>
    cases i with
    | zero => simp
    | succ i => have := ih i; simp at this ⊢; omega
theorem getD_sum2 (ss : List ByteArray) : (ss.getD 0 ByteArray.empty).size + (ss.getD 1 ByteArray.empty).size ≤ sumS ss := by
  cases ss with
  | nil => decide
  | cons a l =>
    have := getD_sum l 0
    simp only [sumS, List.map_cons, List.sum_cons, List.getD_cons_zero, List.getD_cons_succ] at this ⊢
    omega
theorem glue_size (k op : Int) (v : V) (tb nm : ByteArray) (ss : List ByteArray) (h1 : tb.size ≤ 1000) (h2 : nm.size ≤ 1000) (h3 : v.s.size ≤ 1000) (h4 : -9223372036854775808 ≤ v.n ∧ v.n ≤ 9223372036854775807) : (glue k op v tb nm ss).size ≤ 3100 + sumS ss := by
  have g1 := showV_size v.k v.n v.s h3 h4
  have g2 := signE_size op
  have g3 := nameE_size op
  have g4 := getD_sum ss 0
  have g5 := getD_sum2 ss
  unfold glue
  repeat' split
  all_goals try simp only [ByteArray.size_append]
  all_goals first
    | omega
    | (simp only [show (ByteArray.mk #[40]).size = 1 from rfl, show (ByteArray.mk #[41]).size = 1 from rfl, show (ByteArray.mk #[32]).size = 1 from rfl, show (ByteArray.mk #[46]).size = 1 from rfl, show (ByteArray.mk #[40, 78, 79, 84, 32]).size = 5 from rfl, show (ByteArray.mk #[40, 45, 32]).size = 3 from rfl, show (ByteArray.mk #[32, 73, 83, 32, 78, 85, 76, 76, 41]).size = 9 from rfl, show (ByteArray.mk #[32, 73, 83, 32, 78, 79, 84, 32, 78, 85, 76, 76, 41]).size = 13 from rfl]; omega)
    | (show 8 ≤ _; omega)
theorem showE_size : ∀ e : Ex, Fit e → (showE e).size ≤ 3100 * e.parts.length := by
  intro e
  induction e using Ex.ind with
  | h k op v tb nm l ih =>
    intro hf
    have hs := hf.self
    have h1 := glue_size k op v tb nm (l.map showE) hs.2.1 hs.1 hs.2.2.1 hs.2.2.2
    rw [showE_eq]
    have h2 : sumS (l.map showE) ≤ 3100 * (partsL l).length := by
      have hk : ∀ x ∈ l, (showE x).size ≤ 3100 * x.parts.length := fun x hx => ih x hx (hf.kid hx)
      clear ih hf hs h1
      induction l with
      | nil => simp [sumS, partsL]
      | cons a l ihl =>
        have a1 := hk a (List.mem_cons_self ..)
        have a2 := ihl (fun x hx => hk x (List.mem_cons_of_mem _ hx))
        simp only [sumS, List.map_cons, List.sum_cons, partsL, List.length_append] at a2 ⊢
        omega
    show (glue k op v tb nm (l.map showE)).size ≤ _
    simp only [Ex.parts, List.length_cons]
    omega
theorem kid_parts {e x : Ex} (hx : x ∈ e.l) : x.parts.length < e.parts.length := by
  rw [e.parts_eq, List.length_cons, partsL_flat]
  have : x.parts.length ≤ (e.l.flatMap Ex.parts).length := by
    generalize e.l = l at *
    induction l with
    | nil => cases hx
    | cons a l ih =>
      rw [List.flatMap_cons, List.length_append]
      rcases List.mem_cons.1 hx with rfl | hx
      · omega
      · have := ih hx; omega
  omega
end Go.Proofs.YtfnajccnlcfbiaaDoor.ex
