/- Tokens of a text, plain: what both texts say of them. -/
import Derived.Test.YtkgfmjejcpjfiaaDoorRows
namespace Go.Proofs.YtkgfmjejcpjfiaaDoor.lx
set_option linter.unusedVariables false

def lowB (c : UInt8) : Bool := 97 ≤ c.toNat && c.toNat ≤ 122
def upB (c : UInt8) : Bool := 65 ≤ c.toNat && c.toNat ≤ 90
def digB (c : UInt8) : Bool := 48 ≤ c.toNat && c.toNat ≤ 57
def nameB (c : UInt8) : Bool := lowB c || digB c || c.toNat == 95
def blankB (c : UInt8) : Bool := c.toNat == 32 || c.toNat == 10
/-- a token: its kind, what it says, its number, where it begins -/
structure Tk where
  k : Nat
  s : List UInt8
  n : Nat
  at_ : Nat
deriving DecidableEq
/-- the first token of a text, and one less than its length; or why there is none -/
inductive Fst
  | bad (e : Nat)
  | tok (k : Nat) (s : List UInt8) (n len : Nat)
deriving DecidableEq
def wordL (k : Nat) (s : List UInt8) : Fst := if 16 < s.length then .bad 8 else .tok k s 0 (s.length - 1)
def valL (s : List UInt8) : Nat := s.foldl (fun a c => a * 10 + (c.toNat - 48)) 0
def numL (s : List UInt8) : Fst := if 19 < s.length then .bad 8 else if 9223372036854775807 < valL s then .bad 8 else .tok 3 s (valL s) (s.length - 1)
/-- a text token, from a place on -/
def textL (l : List UInt8) (i : Nat) (acc : List UInt8) : Fst :=
  if h : i < l.length then
    if l[i] = 39 then
      if l[i + 1]? = some 39 then textL l (i + 2) (acc ++ [39])
      else if 64 < acc.length then .bad 8 else .tok 4 acc 0 i
    else textL l (i + 1) (acc ++ [l[i]])
  else .bad 4
termination_by l.length - i
def signsL : List (List UInt8) := [[60, 62], [60, 61], [62, 61], [124, 124], [40], [41], [44], [46], [42], [43], [45], [47], [37], [61], [60], [62]]
def signL (l : List UInt8) : Fst := match signsL.find? (fun x => x.isPrefixOf l) with
  | some x => .tok 5 x 0 (x.length - 1)
  | none => .bad 4
def firstL (l : List UInt8) : Fst := match l with
  | [] => .bad 4
  | c :: _ => if lowB c then wordL 1 (l.takeWhile nameB) else if upB c then wordL 2 (l.takeWhile upB) else if digB c then numL (l.takeWhile digB) else if c = 39 then textL l 1 [] else signL l
/-- all tokens, or where and why not -/
inductive Out
  | bad (i e : Nat)
  | ok (ts : List Tk)
deriving DecidableEq
def splitL (l : List UInt8) (i : Nat) (ts : List Tk) : Out :=
  if h : i < l.length then
    if blankB l[i] then splitL l (i + 1) ts
    else match firstL (l.drop i) with
      | .bad e => .bad i e
      | .tok k s n m => splitL l (i + (m + 1)) (ts ++ [⟨k, s, n, i⟩])
  else .ok ts
termination_by l.length - i
def splitT (l : List UInt8) : Out := if 2000 < l.length then .bad 0 3 else splitL l 0 []
def goodL (l : List UInt8) : Bool := match l with
  | [] => false
  | c :: _ => decide (l.length ≤ 16) && lowB c && l.all nameB

theorem low_name {c : UInt8} (h : lowB c = true) : nameB c = true := by unfold nameB; rw [h]; rfl
theorem low_blank {c : UInt8} (h : lowB c = true) : blankB c = false := by
  unfold lowB at h; unfold blankB
  simp only [Bool.and_eq_true, decide_eq_true_eq] at h
  simp only [Bool.or_eq_false_iff, beq_eq_false_iff_ne]
  omega
/-- how long the tokens' texts are -/
theorem takeWhile_all {α} (p : α → Bool) (l : List α) (h : l.all p = true) : l.takeWhile p = l := by
  induction l with
  | nil => rfl
  | cons a l ih => rw [List.all_cons, Bool.and_eq_true] at h; rw [List.takeWhile_cons, h.1, if_pos rfl, ih h.2]
theorem all_of_takeWhile {α} (p : α → Bool) (l : List α) : (l.takeWhile p).all p = true := by
  induction l with
  | nil => rfl
  | cons a l ih =>
    rw [List.takeWhile_cons]
    by_cases h : p a = true
    · rw [if_pos h, List.all_cons, h, ih]; rfl
    · rw [if_neg h]; rfl
theorem split_end (l : List UInt8) (i : Nat) (ts : List Tk) (h : l.length ≤ i) : splitL l i ts = .ok ts := by
  rw [splitL, dif_neg (by omega)]
theorem split_blank (l : List UInt8) (i : Nat) (ts : List Tk) (h : i < l.length) (hb : blankB l[i] = true) : splitL l i ts = splitL l (i + 1) ts := by
  rw [splitL, dif_pos h, if_pos hb]
theorem split_bad (l : List UInt8) (i : Nat) (ts : List Tk) (e : Nat) (h : i < l.length) (hb : blankB l[i] = false) (hf : firstL (l.drop i) = .bad e) : splitL l i ts = .bad i e := by
  rw [splitL, dif_pos h, if_neg (by rw [hb]; decide), hf]
theorem split_tok (l : List UInt8) (i : Nat) (ts : List Tk) (k : Nat) (s : List UInt8) (n m : Nat) (h : i < l.length) (hb : blankB l[i] = false) (hf : firstL (l.drop i) = .tok k s n m) : splitL l i ts = splitL l (i + (m + 1)) (ts ++ [⟨k, s, n, i⟩]) := by
  rw [splitL, dif_pos h, if_neg (by rw [hb]; decide), hf]
theorem first_cons (l : List UInt8) (i : Nat) (h : i < l.length) : l.drop i = l[i] :: l.drop (i + 1) := List.drop_eq_getElem_cons h
theorem word_kind {k : Nat} {s : List UInt8} {k' : Nat} {s' : List UInt8} {n m : Nat} (h : wordL k s = .tok k' s' n m) : k' = k ∧ s' = s ∧ n = 0 ∧ m = s.length - 1 ∧ s.length ≤ 16 := by
  unfold wordL at h
  split at h
  · cases h
  · cases h; exact ⟨rfl, rfl, rfl, rfl, by omega⟩
theorem text_kind (l : List UInt8) (i : Nat) (acc : List UInt8) {k : Nat} {s : List UInt8} {n m : Nat} (h : textL l i acc = .tok k s n m) : k = 4 ∧ n = 0 ∧ s.length ≤ 64 ∧ i ≤ m ∧ m < l.length := by
  induction i, acc using textL.induct (l := l) with
  | case1 i acc hi hq hq2 ih => rw [textL, dif_pos hi, if_pos hq, if_pos hq2] at h; have := ih h; omega
  | case2 i acc hi hq hq2 hl => rw [textL, dif_pos hi, if_pos hq, if_neg hq2, if_pos hl] at h; cases h
  | case3 i acc hi hq hq2 hl => rw [textL, dif_pos hi, if_pos hq, if_neg hq2, if_neg hl] at h; cases h; exact ⟨rfl, rfl, by omega, Nat.le_refl _, hi⟩
  | case4 i acc hi hq ih => rw [textL, dif_pos hi, if_neg hq] at h; have := ih h; omega
  | case5 i acc hi => rw [textL, dif_neg hi] at h; cases h
theorem sign_kind (l : List UInt8) {k : Nat} {s : List UInt8} {n m : Nat} (h : signL l = .tok k s n m) : k = 5 ∧ n = 0 ∧ s <+: l ∧ s ∈ signsL ∧ m + 1 = s.length := by
  unfold signL at h
  split at h
  · next x hx =>
    cases h
    have h1 := List.find?_some hx
    have h2 := List.mem_of_find?_eq_some hx
    refine ⟨rfl, rfl, List.isPrefixOf_iff_prefix.1 h1, h2, ?_⟩
    have : ∀ y ∈ signsL, 1 ≤ y.length := by decide
    have := this _ h2
    omega
  · cases h
/-- a token's length, of a text that has one -/
theorem first_len (l : List UInt8) {k : Nat} {s : List UInt8} {n m : Nat} (h : firstL l = .tok k s n m) : m + 1 ≤ l.length ∧ n ≤ 9223372036854775807 ∧ k ≤ 5 := by
  cases l with
  | nil => cases h
  | cons c r =>
    simp only [firstL] at h
    have hT : ∀ p : UInt8 → Bool, ((c :: r).takeWhile p).length ≤ (c :: r).length := fun p => (List.takeWhile_sublist p).length_le
    split at h
    · obtain ⟨rfl, rfl, rfl, rfl, -⟩ := word_kind h
      have := hT nameB
      simp only [List.length_cons] at this ⊢
      omega
    · split at h
      · obtain ⟨rfl, rfl, rfl, rfl, -⟩ := word_kind h
        have := hT upB
        simp only [List.length_cons] at this ⊢
        omega
      · split at h
        · unfold numL at h
          split at h
          · cases h
          · split at h
            · cases h
            · cases h
              have := hT digB
              simp only [List.length_cons] at this ⊢
              omega
        · split at h
          · obtain ⟨rfl, rfl, -, -, h4⟩ := text_kind _ _ _ h
            exact ⟨h4, by omega, by omega⟩
          · obtain ⟨rfl, rfl, h3, -, h5⟩ := sign_kind _ h
            exact ⟨by rw [h5]; exact h3.length_le, by omega, by omega⟩
/-- a name, and no other text, is one token that is a name and says it -/
theorem good_one (l : List UInt8) (h : goodL l = true) : splitT l = .ok [⟨1, l, 0, 0⟩] := by
  cases l with
  | nil => cases h
  | cons c r =>
    unfold goodL at h
    simp only [Bool.and_eq_true, decide_eq_true_eq] at h
    obtain ⟨⟨h1, h2⟩, h3⟩ := h
    have hf : firstL ((c :: r).drop 0) = .tok 1 (c :: r) 0 r.length := by
      rw [List.drop_zero]
      simp only [firstL]
      rw [if_pos h2, takeWhile_all _ _ h3]
      unfold wordL
      rw [if_neg (by omega)]; rfl
    unfold splitT
    rw [if_neg (by omega), split_tok (c :: r) 0 [] 1 (c :: r) 0 r.length (by simp) (low_blank h2) hf, split_end _ _ _ (by simp)]
    rfl
theorem one_good (l : List UInt8) (a n : Nat) (h : splitT l = .ok [⟨1, l, n, a⟩]) : goodL l = true := by
  have key : ∀ (i : Nat) (ts us : List Tk), splitL l i ts = .ok us → (∀ t ∈ ts, t.k = 1 → goodL t.s = true) → ∀ t ∈ us, t.k = 1 → goodL t.s = true := by
    intro i ts
    induction i, ts using splitL.induct (l := l) with
    | case1 i ts hi hb ih => intro us h h1; rw [split_blank l i ts hi hb] at h; exact ih us h h1
    | case2 i ts hi hb e hf => intro us h h1; rw [split_bad l i ts e hi (by simpa using hb) hf] at h; cases h
    | case3 i ts hi hb k s n m hf ih =>
      intro us h h1
      rw [split_tok l i ts k s n m hi (by simpa using hb) hf] at h
      refine ih us h ?_
      intro t ht hk
      rcases List.mem_append.1 ht with ht | ht
      · exact h1 t ht hk
      · obtain rfl := List.mem_singleton.1 ht
        simp only at hk ⊢
        subst hk
        rw [first_cons l i hi] at hf
        simp only [firstL] at hf
        split at hf
        · next hl =>
          obtain ⟨-, rfl, -, -, h16⟩ := word_kind hf
          have ha := all_of_takeWhile nameB (l[i] :: l.drop (i + 1))
          rw [List.takeWhile_cons, if_pos (low_name hl)] at h16 ha ⊢
          unfold goodL
          simp only [Bool.and_eq_true, decide_eq_true_eq]
          exact ⟨⟨h16, hl⟩, ha⟩
        · split at hf
          · exact absurd (word_kind hf).1 (by decide)
          · split at hf
            · unfold numL at hf
              split at hf
              · cases hf
              · split at hf
                · cases hf
                · cases hf
            · split at hf
              · exact absurd (text_kind _ _ _ hf).1 (by decide)
              · exact absurd (sign_kind _ hf).1 (by decide)
    | case4 i ts hi => intro us h h1; rw [split_end l i ts (by omega)] at h; cases h; exact h1
  unfold splitT at h
  split at h
  · cases h
  · exact key 0 [] _ h (fun t ht => absurd ht (by simp)) _ (List.mem_singleton.2 rfl) rfl
/-- so many brackets -/
theorem brackets (n i : Nat) (ts : List Tk) (h : i ≤ n) : ∃ us, splitL (List.replicate n 40) i ts = .ok us ∧ us.length = ts.length + (n - i) := by
  induction hk : n - i generalizing i ts with
  | zero => exact ⟨ts, split_end _ _ _ (by rw [List.length_replicate]; omega), rfl⟩
  | succ k ih =>
    have hi : i < (List.replicate n (40 : UInt8)).length := by rw [List.length_replicate]; omega
    have hb : blankB (List.replicate n (40 : UInt8))[i] = false := by rw [List.getElem_replicate]; decide
    have hf : firstL ((List.replicate n (40 : UInt8)).drop i) = .tok 5 [40] 0 0 := by
      rw [List.drop_replicate, hk, List.replicate_succ]
      simp only [firstL]
      rw [if_neg (by decide), if_neg (by decide), if_neg (by decide), if_neg (by decide)]
      unfold signL signsL
      simp [List.find?, List.isPrefixOf]
    rw [split_tok _ i ts 5 [40] 0 0 hi hb hf]
    obtain ⟨us, h1, h2⟩ := ih (i + (0 + 1)) (ts ++ [⟨5, [40], 0, i⟩]) (by omega) (by omega)
    exact ⟨us, h1, by rw [h2, List.length_append]; simp; omega⟩
theorem splitT_brackets (n : Nat) (h : n ≤ 2000) : ∃ us, splitT (List.replicate n 40) = .ok us ∧ us.length = n := by
  unfold splitT
  rw [if_neg (by rw [List.length_replicate]; omega)]
  obtain ⟨us, h1, h2⟩ := brackets n 0 [] (by omega)
  exact ⟨us, h1, by simpa using h2⟩
theorem splitT_long (l : List UInt8) (h : 2000 < l.length) : splitT l = .bad 0 3 := by unfold splitT; rw [if_pos h]

end Go.Proofs.YtkgfmjejcpjfiaaDoor.lx
