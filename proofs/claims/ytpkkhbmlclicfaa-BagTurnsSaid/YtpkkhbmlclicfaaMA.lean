/- Values of SQL as plain mathematics: what operators do, by two texts, which agree. No program. -/
import Derived.WalkKit
import Derived.Laws.BitsLemmas
import Derived.Laws.StructEq
import Derived.WalkSpells
import Derived.Laws.BytesArg
import Derived.Lib.Strings
import Derived.Lib.Hide
import Derived.Below
import Derived.Lib.Builder
import Derived.Laws.BitsAllLaws
import Derived.Test.YtpkkhbmlclicfaaRows
import Derived.Test.YtpkkhbmlclicfaaShelf
import Derived.WalkLawsBesides
import Derived.Lib.AppendStr
import Derived.Laws.Externs
import Derived.Deep.QuietTactic
import Derived.BigQuiet
import Derived.WalkSmall
import Derived.Deep.RegionHeld3
import Derived.Deep.RegionWith
import Derived.Lib.IndexBytes
namespace Go.Proofs.Ytpkkhbmlclicfaa.val
set_option linter.unusedVariables false
/-- a value: its kind, its number, its text -/
structure V where
  k : Int
  n : Int
  s : ByteArray
def null : V := ⟨0, 0, ByteArray.empty⟩
def ofN (n : Int) : V := ⟨2, n, ByteArray.empty⟩
/-- are both the same? -/
def veq6 (k n : Int) (s : ByteArray) (k' n' : Int) (s' : ByteArray) : Bool := k == k' && (n == n' && s.toList == s'.toList)
abbrev veq (a b : V) : Bool := veq6 a.k a.n a.s b.k b.n b.s
theorem bytes_ext {a b : ByteArray} (h : a.toList = b.toList) : a = b := by
  rw [ByteArray.toList_eq, ByteArray.toList_eq] at h
  cases a; cases b; simp at h; simp [h]
theorem veq_iff (a b : V) : veq a b = true ↔ a = b := by
  cases a; cases b
  simp only [veq6, Bool.and_eq_true, beq_iff_eq, V.mk.injEq]
  constructor
  · rintro ⟨h1, h2, h3⟩; exact ⟨h1, h2, bytes_ext h3⟩
  · rintro ⟨h1, h2, h3⟩; exact ⟨h1, h2, by rw [h3]⟩
theorem veq_self (a : V) : veq a a = true := (veq_iff a a).2 rfl
theorem veq_false (a b : V) : veq a b = false ↔ a ≠ b := by rw [← Bool.not_eq_true, veq_iff]
/-- does a value stand ahead of another one? -/
def less (a b : V) : Bool := if a.k = b.k then (if a.k = 3 then Op.bytesLess a.s.toList b.s.toList else decide (a.n < b.n)) else decide (a.k < b.k)
/-- a value that may be -/
def Good (v : V) : Prop := (v.k = 0 ∧ v.n = 0 ∧ v.s = ByteArray.empty) ∨ (v.k = 1 ∧ (v.n = 0 ∨ v.n = 1) ∧ v.s = ByteArray.empty) ∨ (v.k = 2 ∧ v.s = ByteArray.empty ∧ -9223372036854775808 ≤ v.n ∧ v.n ≤ 9223372036854775807) ∨ (v.k = 3 ∧ v.n = 0 ∧ v.s.size ≤ 64)
theorem bl_irrefl : ∀ x : List UInt8, Op.bytesLess x x = false
  | [] => rfl
  | a :: x => by simp [Op.bytesLess, bl_irrefl x]
theorem bl_total : ∀ x y : List UInt8, Op.bytesLess x y = false → Op.bytesLess y x = false → x = y
  | [], [], _, _ => rfl
  | [], b :: y, h, _ => by simp [Op.bytesLess] at h
  | a :: x, [], _, h => by simp [Op.bytesLess] at h
  | a :: x, b :: y, h1, h2 => by
    simp only [Op.bytesLess] at h1 h2
    by_cases e : a = b
    · subst e
      simp at h1 h2
      rw [bl_total x y h1 h2]
    · exfalso
      simp [e, fun h : b = a => e h.symm] at h1 h2
      have := UInt8.le_antisymm h2.1 h1
      exact e (by first | exact this | exact this.symm)
theorem bl_asymm : ∀ x y : List UInt8, Op.bytesLess x y = true → Op.bytesLess y x = false
  | [], [], h => by simp [Op.bytesLess] at h
  | [], b :: y, _ => rfl
  | a :: x, [], h => by simp [Op.bytesLess] at h
  | a :: x, b :: y, h => by
    simp only [Op.bytesLess] at h ⊢
    by_cases e : a = b
    · subst e
      simp at h ⊢
      exact bl_asymm x y h
    · simp [e, fun h : b = a => e h.symm] at h ⊢
      exact ⟨UInt8.le_of_lt h, fun e' => absurd e'.symm e⟩
theorem less_irrefl (a : V) : less a a = false := by
  unfold less; simp only [if_true]; split
  · exact bl_irrefl _
  · simp
theorem less_total (a b : V) (ha : Good a) (hb : Good b) (h1 : less a b = false) (h2 : less b a = false) : a = b := by
  unfold less at h1 h2
  have ek : a.k = b.k := by
    by_cases e : a.k = b.k
    · exact e
    · rw [if_neg e] at h1; rw [if_neg (fun e' => e e'.symm)] at h2; simp at h1 h2; omega
  rw [if_pos ek] at h1; rw [if_pos ek.symm] at h2
  cases a with | mk ka na sa =>
  cases b with | mk kb nb sb =>
  dsimp only at *
  subst ek
  by_cases e3 : ka = 3
  · subst e3
    simp only [if_true] at h1 h2
    have es := bytes_ext (bl_total _ _ h1 h2)
    subst es
    have e1 : na = nb := by unfold Good at ha hb; dsimp only at ha hb; omega
    rw [e1]
  · rw [if_neg e3] at h1 h2
    simp at h1 h2
    obtain rfl : na = nb := by omega
    have es : sa = ByteArray.empty := by rcases ha with h | h | h | h <;> first | exact h.2.2 | exact h.2.1 | (exact absurd h.1 e3)
    have et : sb = ByteArray.empty := by rcases hb with h | h | h | h <;> first | exact h.2.2 | exact h.2.1 | (exact absurd h.1 e3)
    rw [es, et]
/-- what two numbers give, and the error -/
def exact (op a b : Int) : Int := if op = 7 then a + b else if op = 8 then a - b else if op = 9 then a * b else if op = 10 then a.tdiv b else a.tmod b
end Go.Proofs.Ytpkkhbmlclicfaa.val
/- Small laws of no program: a byte block made by the call turned into a string; a slice that is read as a row of cells. No conditions beyond those that each statement names. -/
namespace Go.Proofs.Ytpkkhbmlclicfaa
set_option linter.unusedVariables false
open Go.RowKit
theorem cells_new (w : World) (vs : List Value) (T : TypeId) (i : Nat) : (w.alloc (.cells vs.toArray T)).cell? ⟨w.heap.size, i, none⟩ = vs[i]? := by
  have h : (w.alloc (.cells vs.toArray T)).heap[w.heap.size]? = some (.cells vs.toArray T (0, 0)) := by
    show (w.heap.push _)[w.heap.size]? = _
    simp
  rw [Lib.cell_of_heap h]; simp
theorem take_snoc (s : ByteArray) (k : Nat) (h : k < s.size) : s.data.toList.take (k + 1) = s.data.toList.take k ++ [s[k]] := by
  rw [List.take_succ_eq_append_getElem (by simpa using h)]; rfl
theorem take_all (s : ByteArray) (k : Nat) (h : s.size ≤ k) : s.data.toList.take k = s.data.toList :=
  List.take_of_length_le (by simpa using h)
theorem ret_i64 {a b : Int} (h : a = b) : Ending.returned (.int .i64 a) = .returned (.int .i64 b) := by rw [h]
/-- A slice value that reads as the cells xs, so many to an element. -/
def Row (w : World) (v : Value) (size n : Nat) (xs : List Value) : Prop :=
  ∃ a cap, v = .slice a n cap ∧ xs.length = n * size ∧ (n = 0 ∨ ∃ b off, a = some ⟨b, off, none⟩ ∧ ∀ j, j < n * size → w.cell? ⟨b, off + j, none⟩ = xs[j]?)
theorem Row.later {w w' : World} {v : Value} {size n : Nat} {xs : List Value} (h : Row w v size n xs) (hb : Below w.heap.size w w') : Row w' v size n xs := by
  obtain ⟨a, cap, hv, hl, h⟩ := h
  refine ⟨a, cap, hv, hl, h.imp id ?_⟩
  rintro ⟨b, off, ha, hc⟩
  refine ⟨b, off, ha, fun j hj => ?_⟩
  have h1 := hc j hj
  rw [List.getElem?_eq_getElem (by omega)] at h1 ⊢
  exact cell_later hb h1
theorem Row.of_owns {w : World} {base : Nat} {e : TypeId} {size n : Nat} {v : Value} {xs : List Value} (h : w.ownsRow base e size v n xs) : Row w v size n xs := by
  have hl := h.1
  rcases h.2 with ⟨rfl, rfl⟩ | ⟨g, cap, cur, rfl, _⟩
  · exact ⟨none, 0, rfl, hl, .inl rfl⟩
  · exact ⟨_, cap, rfl, hl, .inr ⟨g, 0, rfl, fun j hj => by simpa using h.cellAt j hj⟩⟩
theorem Row.pos {w : World} {v : Value} {size n : Nat} {xs : List Value} (h : Row w v size n xs) (hn : 0 < n) : ∃ b off cap, v = .slice (some ⟨b, off, none⟩) n cap ∧ ∀ j, j < n * size → w.cell? ⟨b, off + j, none⟩ = xs[j]? := by
  obtain ⟨a, cap, hv, _, h⟩ := h
  rcases h with h | ⟨b, off, rfl, hc⟩
  · omega
  · exact ⟨b, off, cap, hv, hc⟩
theorem Row.len {w : World} {v : Value} {size n : Nat} {xs : List Value} (h : Row w v size n xs) : xs.length = n * size := h.choose_spec.choose_spec.2.1
theorem owns_below {w w' : World} {B : Nat} {e : TypeId} {k : Nat} {v : Value} {n : Nat} {xs : List Value} (h : w.ownsRow B e k v n xs) (hb : Below w.heap.size w w') : w'.ownsRow B e k v n xs := by
  refine h.kept (row := none) ⟨hb.os, hb.tape, hb.output, hb.size, fun j hj _ => hb.block j hj⟩ ?_
  cases v.ownBlock
  · exact .inl rfl
  · exact .inr (by simp)
end Go.Proofs.Ytpkkhbmlclicfaa
/- Plain mathematics of bytes: a number in base 256, the greatest byte first; texts of one length are ordered as their numbers; packed texts. No program, no conditions beyond those that each statement names. -/
namespace Go.Proofs.Ytpkkhbmlclicfaa
set_option linter.unusedVariables false
/-- the number of some bytes, the greatest first -/
def beVal (l : List UInt8) : Nat := l.foldl (fun u b => 256 * u + b.toNat) 0
end Go.Proofs.Ytpkkhbmlclicfaa
/- cut, Split: packed texts taken apart. -/
namespace Go.Proofs.Ytpkkhbmlclicfaa
set_option linter.unusedVariables false
open Go.RowKit
/-- what the first four bytes say -/
def cutN (s : ByteArray) : Nat := beVal (s.data.toList.take 4)
/-- the texts that are packed in a text, as far as they are whole, and whether all are -/
def splitF : Nat → ByteArray → List ByteArray × Bool
  | 0, s => ([], s.size == 0)
  | f + 1, s => if s.size < 4 ∨ s.size < 4 + cutN s then ([], s.size == 0) else (s.extract 4 (4 + cutN s) :: (splitF f (s.extract (4 + cutN s) s.size)).1, (splitF f (s.extract (4 + cutN s) s.size)).2)
def splitS (s : ByteArray) : List ByteArray × Bool := splitF s.size s
theorem splitF_stop (f : Nat) (s : ByteArray) (h : s.size < 4 ∨ s.size < 4 + cutN s) : splitF f s = ([], s.size == 0) := by
  cases f with
  | zero => rfl
  | succ f => rw [splitF, if_pos h]
theorem splitF_step (f : Nat) (s : ByteArray) (h1 : 4 ≤ s.size) (h2 : 4 + cutN s ≤ s.size) : splitF (f + 1) s = (s.extract 4 (4 + cutN s) :: (splitF f (s.extract (4 + cutN s) s.size)).1, (splitF f (s.extract (4 + cutN s) s.size)).2) := by
  rw [splitF, if_neg (by omega)]
theorem splitF_fuel : ∀ (f : Nat) (s : ByteArray), s.size ≤ f → splitF f s = splitS s := by
  have key : ∀ (n f g : Nat) (s : ByteArray), s.size ≤ n → s.size ≤ f → s.size ≤ g → splitF f s = splitF g s := by
    intro n
    induction n with
    | zero => intro f g s hn _ _; rw [splitF_stop f s (by omega), splitF_stop g s (by omega)]
    | succ n ih =>
      intro f g s hn hf hg
      by_cases h : s.size < 4 ∨ s.size < 4 + cutN s
      · rw [splitF_stop f s h, splitF_stop g s h]
      · obtain ⟨f, rfl⟩ : ∃ k, f = k + 1 := ⟨f - 1, by omega⟩
        obtain ⟨g, rfl⟩ : ∃ k, g = k + 1 := ⟨g - 1, by omega⟩
        have hz : (s.extract (4 + cutN s) s.size).size ≤ s.size - 4 := by rw [ByteArray.size_extract]; omega
        rw [splitF_step f s (by omega) (by omega), splitF_step g s (by omega) (by omega), ih f g _ (by omega) (by omega) (by omega)]
  intro f s h
  exact key _ f _ s (Nat.le_refl _) h (Nat.le_refl _)
theorem splitS_step (s : ByteArray) (h1 : 4 ≤ s.size) (h2 : 4 + cutN s ≤ s.size) : splitS s = (s.extract 4 (4 + cutN s) :: (splitS (s.extract (4 + cutN s) s.size)).1, (splitS (s.extract (4 + cutN s) s.size)).2) := by
  have hz : (s.extract (4 + cutN s) s.size).size ≤ s.size - 4 := by rw [ByteArray.size_extract]; omega
  rw [← splitF_fuel (s.size + 1) s (by omega), splitF_step _ s h1 h2, splitF_fuel _ _ (by omega)]
/-- what Split tells -/
def SplitPost (s : ByteArray) (w : World) (e : Ending) (w' : World) : Prop :=
  ∃ v, e = .returned (.tuple #[v, .int .i64 (if (splitS s).2 then 0 else 2)]) ∧ (if (splitS s).2 then w'.ownsRow w.heap.size 9 1 v (splitS s).1.length ((splitS s).1.map Value.string) else v = .slice none 0 0) ∧ Below w.heap.size w w'
theorem SplitPost.mk {s : ByteArray} {w : World} {e : Ending} {w' : World} (b : Bool) (hb : (splitS s).2 = b) (v : Value) (he : e = .returned (.tuple #[v, .int .i64 (if b then 0 else 2)])) (hv : if b then w'.ownsRow w.heap.size 9 1 v (splitS s).1.length ((splitS s).1.map Value.string) else v = .slice none 0 0) (hB : Below w.heap.size w w') : SplitPost s w e w' := by
  subst hb; exact ⟨v, he, hv, hB⟩
def SplitAt (s : ByteArray) (acc : List ByteArray) (r : ByteArray) : Prop :=
  splitS s = (acc ++ (splitS r).1, (splitS r).2) ∧ acc.length + r.size ≤ s.size
theorem SplitAt.step {s : ByteArray} {acc : List ByteArray} {r : ByteArray} (h : SplitAt s acc r) (h1 : 4 ≤ r.size) (h2 : 4 + cutN r ≤ r.size) : SplitAt s (acc ++ [r.extract 4 (4 + cutN r)]) (r.extract (4 + cutN r) r.size) := by
  refine ⟨?_, ?_⟩
  · rw [h.1, splitS_step r h1 h2]; simp
  · have := h.2
    have hz : (r.extract (4 + cutN r) r.size).size ≤ r.size - 4 := by rw [ByteArray.size_extract]; omega
    rw [List.length_append, List.length_singleton]; omega
end Go.Proofs.Ytpkkhbmlclicfaa
/- The document's Split, and its Pack. -/
namespace Go.Proofs.Ytpkkhbmlclicfaa
set_option linter.unusedVariables false
open Go.RowKit
/-- what the document's Split tells -/
def RefSplitPost (s : ByteArray) (w : World) (e : Ending) (w' : World) : Prop :=
  ∃ v, e = .returned (.tuple #[v, .bool (splitS s).2]) ∧ w'.ownsRow w.heap.size 9 1 v (splitS s).1.length ((splitS s).1.map Value.string) ∧ Below w.heap.size w w'
theorem RefSplitPost.mk {s : ByteArray} {w : World} {e : Ending} {w' : World} (l : List ByteArray) (b : Bool) (hb : splitS s = (l, b)) (v : Value) (he : e = .returned (.tuple #[v, .bool b])) (hv : w'.ownsRow w.heap.size 9 1 v l.length (l.map Value.string)) (hB : Below w.heap.size w w') : RefSplitPost s w e w' := by
  unfold RefSplitPost; rw [hb]; exact ⟨v, he, hv, hB⟩
end Go.Proofs.Ytpkkhbmlclicfaa
/- Rows of values as plain mathematics: the key of a value, and which texts are keys. No program, no conditions beyond those that each statement names. -/
namespace Go.Proofs.Ytpkkhbmlclicfaa.val
set_option linter.unusedVariables false
theorem bytes_data {a b : ByteArray} (h : a.data.toList = b.data.toList) : a = b := by
  cases a; cases b; simp at h; simp [h]
end Go.Proofs.Ytpkkhbmlclicfaa.val
