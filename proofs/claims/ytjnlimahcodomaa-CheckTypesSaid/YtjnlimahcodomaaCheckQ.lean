/- A NOT twice, a minus twice: kinds and values. Plain. -/
import Derived.Test.YtjnlimahcodomaaCheckG
namespace Go.Proofs.Ytjnlimahcodomaa.ck
set_option linter.unusedVariables false
open val (V null doV fitB notV negV ofB ofN ofS gB)
open ex (Ex plainP mayE mayE_kids Fit)
theorem type_zero : ∀ (g : Bool) (l : List Fd) (e : Ex), (typeE g l e).2 ≠ 0 → (typeE g l e).1 = 0 := by
  intro g l e h
  rw [typeE_eq] at h ⊢
  split
  · rfl
  · rename_i h8
    rw [if_neg h8] at h
    split
    · rfl
    · rename_i hf
      rw [if_neg hf] at h
      revert h
      unfold topT onlyT
      repeat' split
      all_goals first | (intro _; rfl) | (intro h; exact absurd rfl h)
/-- an expression within a NOT (4) or a minus (5) -/
def oneE (k : Int) (e : Ex) : Ex := .mk k 0 null ByteArray.empty ByteArray.empty [e]
def kOf (k : Int) : Int := if k = 4 then 1 else 2
theorem type_one {g : Bool} {l : List Fd} {k : Int} {e : Ex} (hk : k = 4 ∨ k = 5) (h : (typeE g l e).2 = 0) : typeE g l (oneE k e) = onlyT (kOf k) (typeE g l e).1 := by
  unfold oneE
  rw [typeE_mk, if_neg (by omega)]
  have hf : firstE ([e].map (typeE g l)) = 0 := firstE_zero.2 (fun z hz => by simp only [List.map_cons, List.map_nil, List.mem_singleton] at hz; subst hz; exact h)
  rw [if_neg (by rw [hf]; exact fun h => h rfl)]
  rcases hk with rfl | rfl <;> rfl
theorem type_one_err {g : Bool} {l : List Fd} {k : Int} {e : Ex} (hk : k = 4 ∨ k = 5) (h : (typeE g l e).2 ≠ 0) : typeE g l (oneE k e) = (0, (typeE g l e).2) := by
  unfold oneE
  rw [typeE_mk, if_neg (by omega)]
  have hf : firstE ([e].map (typeE g l)) = (typeE g l e).2 := by
    simp only [List.map_cons, List.map_nil, firstE]
    rw [if_pos h]
  rw [hf, if_pos h]
/-- does a NOT or a minus take a kind? -/
def fitsK (k t : Int) : Prop := t = 0 ∨ t = kOf k
theorem kOf_ne (k : Int) : kOf k ≠ 0 := by unfold kOf; split <;> decide
theorem type_twice {g : Bool} {l : List Fd} {k : Int} {e : Ex} (hk : k = 4 ∨ k = 5) (h : (typeE g l e).2 = 0) :
    (fitsK k (typeE g l e).1 → typeE g l (oneE k (oneE k e)) = (kOf k, 0)) ∧ (¬ fitsK k (typeE g l e).1 → (typeE g l (oneE k (oneE k e))).2 = 5) := by
  have h1 := type_one (g := g) (l := l) hk h
  unfold fitsK
  constructor
  · intro hf
    have h2 : typeE g l (oneE k e) = (kOf k, 0) := by
      rw [h1]; unfold onlyT; rw [if_neg (by rintro ⟨h3, h4⟩; rcases hf with hf | hf <;> contradiction)]
    rw [type_one hk (by rw [h2]), h2]
    unfold onlyT
    rw [if_neg (by rintro ⟨-, h4⟩; exact h4 rfl)]
  · intro hf
    have h2 : typeE g l (oneE k e) = (0, 5) := by
      rw [h1]; unfold onlyT; rw [if_pos ⟨fun h => hf (.inl h), fun h => hf (.inr h)⟩]
    rw [type_one_err hk (by rw [h2]; decide), h2]
theorem eval_one {l : List Fd} {row : List V} {k : Int} {e : Ex} (hk : k = 4 ∨ k = 5) (h : (evalE l row e).2 = 0) : evalE l row (oneE k e) = if k = 4 then notV (evalE l row e).1 else negV (evalE l row e).1 := by
  unfold oneE
  rw [evalE_mk]
  have hf : firstE ([e].map (evalE l row)) = 0 := firstE_zero.2 (fun z hz => by simp only [List.map_cons, List.map_nil, List.mem_singleton] at hz; subst hz; exact h)
  rw [if_neg (by rw [hf]; exact fun h => h rfl)]
  rcases hk with rfl | rfl
  · rfl
  · rfl
theorem eval_one_err {l : List Fd} {row : List V} {k : Int} {e : Ex} (h : (evalE l row e).2 ≠ 0) : evalE l row (oneE k e) = (null, (evalE l row e).2) := by
  unfold oneE
  rw [evalE_mk]
  have hf : firstE ([e].map (evalE l row)) = (evalE l row e).2 := by
    simp only [List.map_cons, List.map_nil, firstE]
    rw [if_pos h]
  rw [hf, if_pos h]
theorem not_not {v : V} (h : val.Good v) (hk : v.k = 0 ∨ v.k = 1) : (notV v).2 = 0 ∧ notV (notV v).1 = (v, 0) := by
  obtain ⟨k, n, s⟩ := v
  dsimp only at hk
  rcases h with ⟨h1, h2, h3⟩ | ⟨h1, h2, h3⟩ | ⟨h1, -⟩ | ⟨h1, -⟩
  · dsimp only at h1 h2 h3
    subst h1 h2 h3
    exact ⟨rfl, rfl⟩
  · dsimp only at h1 h2 h3
    subst h1 h3
    rcases h2 with rfl | rfl
    · have e1 : notV ⟨1, 0, ByteArray.empty⟩ = (ofB true, 0) := rfl
      rw [e1]
      exact ⟨rfl, by
        show notV (ofB true) = _
        unfold notV
        rw [if_neg (by decide), if_pos (by decide), val.veq_self]; rfl⟩
    · have e1 : notV ⟨1, 1, ByteArray.empty⟩ = (ofB false, 0) := by
        unfold notV
        rw [if_neg (by decide), if_pos rfl, show (⟨1, 1, ByteArray.empty⟩ : V) = ofB true from rfl, val.veq_self]; rfl
      rw [e1]
      exact ⟨rfl, rfl⟩
  · dsimp only at h1; omega
  · dsimp only at h1; omega
theorem neg_neg' {v : V} (h : val.Good v) (hk : v.k = 0 ∨ v.k = 2) : ((negV v).2 = 0 ∧ negV (negV v).1 = (v, 0)) ∨ (negV v).2 = 8 := by
  obtain ⟨k, n, s⟩ := v
  dsimp only at hk
  rcases h with ⟨h1, h2, h3⟩ | ⟨h1, -⟩ | ⟨h1, h2, h3⟩ | ⟨h1, -⟩
  · dsimp only at h1 h2 h3
    subst h1 h2 h3
    exact .inl ⟨rfl, rfl⟩
  · dsimp only at h1; omega
  · dsimp only at h1 h2 h3
    subst h1 h2
    unfold negV
    dsimp only
    rw [if_neg (by decide), if_neg (by decide)]
    by_cases hm : n = -9223372036854775808
    · rw [if_pos hm]; exact .inr rfl
    · rw [if_neg hm]
      refine .inl ⟨rfl, ?_⟩
      show (if (2 : Int) = 0 then _ else _) = _
      rw [if_neg (by decide), if_neg (by show ¬ (2 : Int) ≠ 2; decide)]
      by_cases hx : -n = -9223372036854775808
      · omega
      · rw [if_neg (by show ¬ (-n = _); exact hx)]
        show (ofN (- -n), (0 : Int)) = _
        rw [Int.neg_neg]; rfl
  · dsimp only at h1; omega
/-- what an expression is, and what it is within two NOTs or two minuses -/
theorem eval_twice {l : List Fd} {row : List V} {k : Int} {e : Ex} {t : Int} (hk : k = 4 ∨ k = 5) (ha : Ans t (evalE l row e)) (hf : fitsK k t) :
    (evalE l row (oneE k (oneE k e))).2 = (evalE l row e).2 ∧ (evalE l row (oneE k (oneE k e))).1 = (evalE l row e).1 ∨ (evalE l row (oneE k (oneE k e))).2 = 8 := by
  by_cases h : (evalE l row e).2 = 0
  · have hh : Has t (evalE l row e).1 := by
      rcases ha with h' | ⟨h', -⟩
      · exact h'.2
      · omega
    have hkk : (evalE l row e).1.k = 0 ∨ (evalE l row e).1.k = kOf k := by
      rcases hh.2 with h1 | h1
      · exact .inl h1
      · rcases hf with h2 | h2
        · exact .inl (by omega)
        · exact .inr (by omega)
    have h1 := eval_one (l := l) (row := row) hk h
    rcases hk with rfl | rfl
    · rw [if_pos rfl] at h1
      obtain ⟨n1, n2⟩ := not_not hh.1 hkk
      have h2 := eval_one (l := l) (row := row) (k := 4) (e := oneE 4 e) (.inl rfl) (by rw [h1]; exact n1)
      rw [if_pos rfl, h1, n2] at h2
      rw [h2]
      exact .inl ⟨h.symm, rfl⟩
    · rw [if_neg (by decide)] at h1
      rcases neg_neg' hh.1 hkk with ⟨n1, n2⟩ | n1
      · have h2 := eval_one (l := l) (row := row) (k := 5) (e := oneE 5 e) (.inr rfl) (by rw [h1]; exact n1)
        rw [if_neg (by decide), h1, n2] at h2
        rw [h2]
        exact .inl ⟨h.symm, rfl⟩
      · have h2 := eval_one_err (l := l) (row := row) (k := 5) (e := oneE 5 e) (by rw [h1, n1]; decide)
        rw [h2, h1, n1]
        exact .inr rfl
  · have h1 := eval_one_err (l := l) (row := row) (k := k) h
    have h2 := eval_one_err (l := l) (row := row) (k := k) (e := oneE k e) (by rw [h1]; exact h)
    have hn : (evalE l row e).1 = null := by
      rcases ha with h' | ⟨-, h'⟩
      · exact absurd h'.1 h
      · exact h'
    rw [h2, h1, hn]
    exact .inl ⟨rfl, rfl⟩
end Go.Proofs.Ytjnlimahcodomaa.ck
