/- What is shown tells the tree. Plain. -/
import Derived.Test.YtfnajccnlcfbiaaDoorExprR
import Derived.Test.YtfnajccnlcfbiaaDoorLexQ
namespace Go.Proofs.YtfnajccnlcfbiaaDoor.ex
set_option linter.unusedVariables false
open val (V null showV gB)
open lx (lowB upB digB nameB goodL valL)
/-- what may stand behind an expression -/
def Stop (l : List UInt8) : Prop := l = [] ∨ ∃ c t, l = c :: t ∧ (c = 32 ∨ c = 41)
def wordB (c : UInt8) : Bool := c != 32 && c != 41 && c != 40
def Nw (l : List UInt8) : Prop := ∀ c t, l = c :: t → wordB c = false
theorem Stop.nw {l : List UInt8} (h : Stop l) : Nw l := by
  rintro c t rfl
  rcases h with h | ⟨c', t', h, h'⟩
  · cases h
  · cases h
    rcases h' with rfl | rfl <;> decide
theorem nw_cons {c : UInt8} {l : List UInt8} (h : wordB c = false) : Nw (c :: l) := by
  rintro c' t e; cases e; exact h
theorem stop_cons {c : UInt8} {l : List UInt8} (h : c = 32 ∨ c = 41) : Stop (c :: l) := .inr ⟨c, l, rfl, h⟩
theorem split_word : ∀ {p q x y : List UInt8}, p.all wordB = true → q.all wordB = true → Nw x → Nw y → p ++ x = q ++ y → p = q ∧ x = y
  | [], [], _, _, _, _, _, _, h => ⟨rfl, h⟩
  | [], d :: q, x, y, _, hq, hx, _, h => by
    have h1 := hx d (q ++ y) (by simpa using h)
    rw [List.all_cons, h1] at hq; simp at hq
  | c :: p, [], x, y, hp, _, _, hy, h => by
    have h1 := hy c (p ++ x) (by simpa using h.symm)
    rw [List.all_cons, h1] at hp; simp at hp
  | c :: p, d :: q, x, y, hp, hq, hx, hy, h => by
    rw [List.all_cons, Bool.and_eq_true] at hp hq
    simp only [List.cons_append, List.cons.injEq] at h
    obtain ⟨h1, h2⟩ := split_word hp.2 hq.2 hx hy h.2
    exact ⟨by rw [h.1, h1], h2⟩
def Nq (l : List UInt8) : Prop := ∀ t, l ≠ 39 :: t
theorem Stop.nq {l : List UInt8} (h : Stop l) : Nq l := by
  rintro t rfl
  rcases h with h | ⟨c', t', h, h'⟩
  · cases h
  · cases h
    rcases h' with h' | h' <;> revert h' <;> decide
theorem dup_inj : ∀ (s t x y : List UInt8), Nq x → Nq y → val.dup s ++ 39 :: x = val.dup t ++ 39 :: y → s = t ∧ x = y
  | [], [], x, y, _, _, h => by rw [val.dup_nil] at h; simpa using h
  | [], d :: t, x, y, hx, _, h => by
    exfalso
    rw [val.dup_nil, val.dup_cons] at h
    by_cases hd : d = 39
    · subst hd; rw [if_pos rfl] at h
      simp only [List.nil_append, List.cons_append, List.cons.injEq, true_and] at h
      exact hx _ h
    · rw [if_neg hd] at h
      simp only [List.nil_append, List.cons_append, List.cons.injEq] at h
      exact hd h.1.symm
  | c :: s, [], x, y, _, hy, h => by
    exfalso
    rw [val.dup_nil, val.dup_cons] at h
    by_cases hd : c = 39
    · subst hd; rw [if_pos rfl] at h
      simp only [List.nil_append, List.cons_append, List.cons.injEq, true_and] at h
      exact hy _ h.symm
    · rw [if_neg hd] at h
      simp only [List.nil_append, List.cons_append, List.cons.injEq] at h
      exact hd h.1
  | c :: s, d :: t, x, y, hx, hy, h => by
    rw [val.dup_cons, val.dup_cons] at h
    by_cases hc : c = 39
    · by_cases hd : d = 39
      · subst hc hd
        rw [if_pos rfl] at h
        simp only [List.cons_append, List.nil_append, List.cons.injEq, true_and] at h
        obtain ⟨h1, h2⟩ := dup_inj s t x y hx hy h
        exact ⟨by rw [h1], h2⟩
      · subst hc
        rw [if_pos rfl, if_neg hd] at h
        simp only [List.cons_append, List.nil_append, List.cons.injEq] at h
        exact absurd h.1.symm hd
    · by_cases hd : d = 39
      · subst hd
        rw [if_pos rfl, if_neg hc] at h
        simp only [List.cons_append, List.nil_append, List.cons.injEq] at h
        exact absurd h.1 hc
      · rw [if_neg hc, if_neg hd] at h
        simp only [List.cons_append, List.nil_append, List.cons.injEq] at h
        obtain ⟨h1, h2⟩ := dup_inj s t x y hx hy h.2
        exact ⟨by rw [h.1, h1], h2⟩
abbrev nobE : ByteArray := ByteArray.empty
/-- a word's expression -/
def wordE (p : List UInt8) : Ex :=
  if p = [78, 85, 76, 76] then .mk 1 0 null nobE nobE []
  else if p = [84, 82, 85, 69] then .mk 1 0 ⟨1, 1, nobE⟩ nobE nobE []
  else if p = [70, 65, 76, 83, 69] then .mk 1 0 ⟨1, 0, nobE⟩ nobE nobE []
  else if (p.headD 0).toNat ≤ 57 then .mk 1 0 ⟨2, (valL p : Nat), nobE⟩ nobE nobE []
  else if 46 ∈ p then .mk 2 0 null ⟨(p.takeWhile (fun c => c != 46)).toArray⟩ ⟨((p.dropWhile (fun c => c != 46)).tail).toArray⟩ []
  else .mk 2 0 null nobE ⟨p.toArray⟩ []
def sgL (op : Int) : List UInt8 := signT.getD op.toNat []
def nmL (op : Int) : List UInt8 := nameT.getD op.toNat []
inductive Sh : Ex → List UInt8 → Prop
  | word (c : UInt8) (p : List UInt8) (hc : wordB c = true) (h39 : c ≠ 39) (h42 : c ≠ 42) (h45 : c ≠ 45) (hp : p.all wordB = true) (hn : c :: p ≠ [78, 79, 84]) : Sh (wordE (c :: p)) (c :: p)
  | text (s : ByteArray) : Sh (.mk 1 0 ⟨3, 0, s⟩ nobE nobE []) (39 :: (val.dup s.data.toList ++ [39]))
  | star : Sh (.mk 8 1 null nobE nobE []) [67, 79, 85, 78, 84, 40, 42, 41]
  | agg (op : Int) (a : Ex) (t : List UInt8) (ha : Sh a t) (ho : 1 ≤ op ∧ op ≤ 4) : Sh (.mk 8 op null nobE nobE [a]) (nmL op ++ 40 :: (t ++ [41]))
  | bin (op : Int) (a b : Ex) (s t : List UInt8) (ha : Sh a s) (hb : Sh b t) (ho : 1 ≤ op ∧ op ≤ 14) : Sh (.mk 3 op null nobE nobE [a, b]) (40 :: (s ++ 32 :: (sgL op ++ 32 :: (t ++ [41]))))
  | not (a : Ex) (t : List UInt8) (ha : Sh a t) : Sh (.mk 4 0 null nobE nobE [a]) (40 :: 78 :: 79 :: 84 :: 32 :: (t ++ [41]))
  | neg (a : Ex) (t : List UInt8) (ha : Sh a t) : Sh (.mk 5 0 null nobE nobE [a]) (40 :: 45 :: 32 :: (t ++ [41]))
  | isn (a : Ex) (t : List UInt8) (ha : Sh a t) : Sh (.mk 6 0 null nobE nobE [a]) (40 :: (t ++ 32 :: 73 :: 83 :: 32 :: 78 :: 85 :: 76 :: 76 :: 41 :: []))
  | notn (a : Ex) (t : List UInt8) (ha : Sh a t) : Sh (.mk 7 0 null nobE nobE [a]) (40 :: (t ++ 32 :: 73 :: 83 :: 32 :: 78 :: 79 :: 84 :: 32 :: 78 :: 85 :: 76 :: 76 :: 41 :: []))
theorem nmL_cases {op : Int} (h : 1 ≤ op ∧ op ≤ 4) : (op = 1 ∧ nmL op = [67, 79, 85, 78, 84]) ∨ (op = 2 ∧ nmL op = [83, 85, 77]) ∨ (op = 3 ∧ nmL op = [77, 73, 78]) ∨ (op = 4 ∧ nmL op = [77, 65, 88]) := by
  rcases (by omega : op = 1 ∨ op = 2 ∨ op = 3 ∨ op = 4) with rfl | rfl | rfl | rfl
  · exact .inl ⟨rfl, rfl⟩
  · exact .inr (.inl ⟨rfl, rfl⟩)
  · exact .inr (.inr (.inl ⟨rfl, rfl⟩))
  · exact .inr (.inr (.inr ⟨rfl, rfl⟩))
theorem nmL_word {op : Int} (h : 1 ≤ op ∧ op ≤ 4) : (nmL op).all wordB = true := by
  rcases nmL_cases h with ⟨-, e⟩ | ⟨-, e⟩ | ⟨-, e⟩ | ⟨-, e⟩ <;> rw [e] <;> decide
theorem nmL_inj {op op' : Int} (h : 1 ≤ op ∧ op ≤ 4) (h' : 1 ≤ op' ∧ op' ≤ 4) (e : nmL op = nmL op') : op = op' := by
  rcases nmL_cases h with ⟨e1, e2⟩ | ⟨e1, e2⟩ | ⟨e1, e2⟩ | ⟨e1, e2⟩ <;> rcases nmL_cases h' with ⟨f1, f2⟩ | ⟨f1, f2⟩ | ⟨f1, f2⟩ | ⟨f1, f2⟩ <;> rw [e2, f2] at e <;> first | (rw [e1, f1]; done) | (exact absurd e (by decide))
theorem nmL_head {op : Int} (h : 1 ≤ op ∧ op ≤ 4) : ∃ c r, nmL op = c :: r ∧ (c = 67 ∨ c = 83 ∨ c = 77) := by
  rcases nmL_cases h with ⟨e1, e2⟩ | ⟨e1, e2⟩ | ⟨e1, e2⟩ | ⟨e1, e2⟩ <;> rw [e2] <;> exact ⟨_, _, rfl, by decide⟩
theorem sgL_fin : ∀ m : Fin 14, (sgL ((m.val + 1 : Nat) : Int)).all wordB = true ∧ sgL ((m.val + 1 : Nat) : Int) ≠ [73, 83] := by decide
theorem sgL_inj_fin : ∀ m n : Fin 14, sgL ((m.val + 1 : Nat) : Int) = sgL ((n.val + 1 : Nat) : Int) → m = n := by decide
theorem op_fin {op : Int} (h : 1 ≤ op ∧ op ≤ 14) : ∃ m : Fin 14, op = ((m.val + 1 : Nat) : Int) := ⟨⟨op.toNat - 1, by omega⟩, by show op = ((op.toNat - 1 + 1 : Nat) : Int); omega⟩
theorem sgL_word {op : Int} (h : 1 ≤ op ∧ op ≤ 14) : (sgL op).all wordB = true := by obtain ⟨m, rfl⟩ := op_fin h; exact (sgL_fin m).1
theorem sgL_is {op : Int} (h : 1 ≤ op ∧ op ≤ 14) : sgL op ≠ [73, 83] := by obtain ⟨m, rfl⟩ := op_fin h; exact (sgL_fin m).2
theorem sgL_inj {op op' : Int} (h : 1 ≤ op ∧ op ≤ 14) (h' : 1 ≤ op' ∧ op' ≤ 14) (e : sgL op = sgL op') : op = op' := by
  obtain ⟨m, rfl⟩ := op_fin h
  obtain ⟨n, rfl⟩ := op_fin h'
  rw [sgL_inj_fin m n e]
theorem sh_head {e : Ex} {t : List UInt8} (h : Sh e t) : ∃ c r, t = c :: r ∧ c ≠ 42 ∧ c ≠ 45 := by
  cases h with
  | word c p hc h39 h42 h45 hp hn => exact ⟨_, _, rfl, h42, h45⟩
  | text s => exact ⟨_, _, rfl, by decide, by decide⟩
  | star => exact ⟨_, _, rfl, by decide, by decide⟩
  | agg op a t ha ho =>
    obtain ⟨c, r, e, h⟩ := nmL_head ho
    rw [e]
    refine ⟨c, _, rfl, ?_, ?_⟩ <;> rcases h with rfl | rfl | rfl <;> decide
  | bin op a b s t ha hb ho => exact ⟨_, _, rfl, by decide, by decide⟩
  | not a t ha => exact ⟨_, _, rfl, by decide, by decide⟩
  | neg a t ha => exact ⟨_, _, rfl, by decide, by decide⟩
  | isn a t ha => exact ⟨_, _, rfl, by decide, by decide⟩
  | notn a t ha => exact ⟨_, _, rfl, by decide, by decide⟩
/-- no expression is the word NOT -/
theorem sh_not {e : Ex} {t : List UInt8} (h : Sh e t) (r r' : List UInt8) : 78 :: 79 :: 84 :: 32 :: r ≠ t ++ 32 :: r' := by
  intro he
  have hw : ([78, 79, 84] : List UInt8).all wordB = true := by decide
  cases h with
  | word c p hc h39 h42 h45 hp hn =>
    obtain ⟨h1, -⟩ := split_word (p := [78, 79, 84]) (x := 32 :: r) (q := c :: p) (y := 32 :: r') hw (by rw [List.all_cons, hc, hp]; rfl) (nw_cons (by decide)) (nw_cons (by decide)) he
    exact hn h1.symm
  | text s => simp at he
  | star => simp at he
  | agg op a t ha ho =>
    obtain ⟨-, h2⟩ := split_word (p := [78, 79, 84]) (x := 32 :: r) (q := nmL op) (y := 40 :: (t ++ [41] ++ 32 :: r')) hw (nmL_word ho) (nw_cons (by decide)) (nw_cons (by decide)) (by simpa using he)
    simp at h2
  | bin op a b s t ha hb ho => simp at he
  | not a t ha => simp at he
  | neg a t ha => simp at he
  | isn a t ha => simp at he
  | notn a t ha => simp at he
theorem sh_word_agg {c : UInt8} {p q x y : List UInt8} (hc : wordB c = true) (hp : p.all wordB = true) (hq : q.all wordB = true) (hx : Stop x) (e : c :: p ++ x = q ++ 40 :: y) : False := by
  obtain ⟨-, h2⟩ := split_word (p := c :: p) (q := q) (by rw [List.all_cons, hc, hp]; rfl) hq hx.nw (nw_cons (by decide)) e
  rcases hx with rfl | ⟨c', t', rfl, h'⟩
  · cases h2
  · cases h2; rcases h' with h' | h' <;> revert h' <;> decide
theorem sh_word_par {c : UInt8} {p x y : List UInt8} (hc : wordB c = true) (e : c :: p ++ x = 40 :: y) : False := by
  simp only [List.cons_append, List.cons.injEq] at e
  rw [e.1] at hc; revert hc; decide
theorem sh_agg_par {op : Int} {x y : List UInt8} (ho : 1 ≤ op ∧ op ≤ 4) (e : nmL op ++ x = 40 :: y) : False := by
  obtain ⟨c, r, h, h'⟩ := nmL_head ho
  rw [h] at e
  simp only [List.cons_append, List.cons.injEq] at e
  rw [e.1] at h'; revert h'; decide
theorem sh_agg_text {op : Int} {x y : List UInt8} (ho : 1 ≤ op ∧ op ≤ 4) (e : nmL op ++ x = 39 :: y) : False := by
  obtain ⟨c, r, h, h'⟩ := nmL_head ho
  rw [h] at e
  simp only [List.cons_append, List.cons.injEq] at e
  rw [e.1] at h'; revert h'; decide
theorem sh_agg_star {op : Int} {a : Ex} {t x y : List UInt8} (ho : 1 ≤ op ∧ op ≤ 4) (ha : Sh a t) (e : nmL op ++ 40 :: (t ++ x) = 67 :: 79 :: 85 :: 78 :: 84 :: 40 :: 42 :: y) : False := by
  obtain ⟨-, h2⟩ := split_word (q := [67, 79, 85, 78, 84]) (y := 40 :: 42 :: y) (nmL_word ho) (by decide) (nw_cons (by decide)) (nw_cons (by decide)) e
  obtain ⟨c, r, rfl, h42, -⟩ := sh_head ha
  simp only [List.cons_append, List.cons.injEq, true_and] at h2
  exact h42 h2.1
theorem is_sg {op : Int} {x y : List UInt8} (ho : 1 ≤ op ∧ op ≤ 14) (e : sgL op ++ 32 :: x = 73 :: 83 :: 32 :: y) : False := by
  obtain ⟨h1, -⟩ := split_word (q := [73, 83]) (y := 32 :: y) (sgL_word ho) (by decide) (nw_cons (by decide)) (nw_cons (by decide)) e
  exact sgL_is ho h1
theorem sh_neg {e : Ex} {t r r' : List UInt8} (h : Sh e t) (he : 45 :: r = t ++ r') : False := by
  obtain ⟨c, q, rfl, -, h45⟩ := sh_head h
  simp only [List.cons_append, List.cons.injEq] at he
  exact h45 he.1.symm
theorem sh_inj {a : Ex} {s : List UInt8} (h : Sh a s) : ∀ {b : Ex} {t x y : List UInt8}, Sh b t → Stop x → Stop y → s ++ x = t ++ y → a = b ∧ x = y := by
  induction h with
  | word c p hc h39 h42 h45 hp hn =>
    intro b t x y hb hx hy e
    cases hb with
    | word c' p' hc' h39' h42' h45' hp' hn' =>
      obtain ⟨h1, h2⟩ := split_word (p := c :: p) (q := c' :: p') (by rw [List.all_cons, hc, hp]; rfl) (by rw [List.all_cons, hc', hp']; rfl) hx.nw hy.nw e
      rw [h1]; exact ⟨rfl, h2⟩
    | text s =>
      simp only [List.cons_append, List.cons.injEq] at e
      exact absurd e.1 h39
    | star => exact (sh_word_agg (q := [67, 79, 85, 78, 84]) hc hp (by decide) hx e).elim
    | agg op a t ha ho => exact (sh_word_agg hc hp (nmL_word ho) hx (by simpa using e)).elim
    | bin op a b s t ha hb ho => exact (sh_word_par hc e).elim
    | not a t ha => exact (sh_word_par hc e).elim
    | neg a t ha => exact (sh_word_par hc e).elim
    | isn a t ha => exact (sh_word_par hc e).elim
    | notn a t ha => exact (sh_word_par hc e).elim
  | text s =>
    intro b t x y hb hx hy e
    cases hb with
    | word c' p' hc' h39' h42' h45' hp' hn' =>
      simp only [List.cons_append, List.cons.injEq] at e
      exact absurd e.1.symm h39'
    | text s' =>
      simp only [List.cons_append, List.cons.injEq, true_and, List.append_assoc, List.nil_append] at e
      obtain ⟨h1, h2⟩ := dup_inj _ _ x y hx.nq hy.nq e
      exact ⟨by rw [show s = s' from ByteArray.ext (Array.toList_inj.1 h1)], h2⟩
    | star => simp at e
    | agg op a t ha ho => exact (sh_agg_text ho (by rw [List.append_assoc] at e; exact e.symm)).elim
    | bin op a b s t ha hb ho => simp at e
    | not a t ha => simp at e
    | neg a t ha => simp at e
    | isn a t ha => simp at e
    | notn a t ha => simp at e
  | star =>
    intro b t x y hb hx hy e
    cases hb with
    | word c' p' hc' h39' h42' h45' hp' hn' => exact (sh_word_agg (q := [67, 79, 85, 78, 84]) hc' hp' (by decide) hy e.symm).elim
    | text s' => simp at e
    | star => exact ⟨rfl, by simpa using e⟩
    | agg op a t ha ho => exact (sh_agg_star (x := 41 :: y) ho ha (by simpa using e.symm)).elim
    | bin op a b s t ha hb ho => simp at e
    | not a t ha => simp at e
    | neg a t ha => simp at e
    | isn a t ha => simp at e
    | notn a t ha => simp at e
  | agg op a s ha ho ih =>
    intro b t x y hb hx hy e
    rw [List.append_assoc] at e
    cases hb with
    | word c' p' hc' h39' h42' h45' hp' hn' => exact (sh_word_agg hc' hp' (nmL_word ho) hy e.symm).elim
    | text s' => exact (sh_agg_text ho e).elim
    | star => exact (sh_agg_star (x := 41 :: x) ho ha (by simpa using e)).elim
    | agg op' a' t' ha' ho' =>
      rw [List.append_assoc] at e
      obtain ⟨h1, h2⟩ := split_word (nmL_word ho) (nmL_word ho') (nw_cons (by decide)) (nw_cons (by decide)) e
      simp only [List.append_eq, List.cons.injEq, true_and, List.append_assoc, List.cons_append, List.nil_append] at h2
      obtain ⟨h3, h4⟩ := ih ha' (stop_cons (.inr rfl)) (stop_cons (.inr rfl)) h2
      rw [nmL_inj ho ho' h1, h3]
      exact ⟨rfl, by simpa using h4⟩
    | bin op' a b s t ha hb ho' => exact (sh_agg_par ho e).elim
    | not a t ha => exact (sh_agg_par ho e).elim
    | neg a t ha => exact (sh_agg_par ho e).elim
    | isn a t ha => exact (sh_agg_par ho e).elim
    | notn a t ha => exact (sh_agg_par ho e).elim
  | bin op a1 a2 s1 s2 ha1 ha2 ho ih1 ih2 =>
    intro b t x y hb hx hy e
    cases hb with
    | word c' p' hc' h39' h42' h45' hp' hn' => exact (sh_word_par hc' e.symm).elim
    | text s' => simp at e
    | star => simp at e
    | agg op a t ha ho => exact (sh_agg_par ho (by rw [List.append_assoc] at e; exact e.symm)).elim
    | bin op' b1 b2 t1 t2 hb1 hb2 ho' =>
      simp only [List.cons_append, List.append_assoc, List.cons.injEq, true_and, List.nil_append] at e
      obtain ⟨h1, h2⟩ := ih1 hb1 (stop_cons (.inl rfl)) (stop_cons (.inl rfl)) e
      simp only [List.cons.injEq, true_and] at h2
      obtain ⟨h3, h4⟩ := split_word (sgL_word ho) (sgL_word ho') (nw_cons (by decide)) (nw_cons (by decide)) h2
      simp only [List.cons.injEq, true_and] at h4
      obtain ⟨h5, h6⟩ := ih2 hb2 (stop_cons (.inr rfl)) (stop_cons (.inr rfl)) h4
      rw [h1, sgL_inj ho ho' h3, h5]
      exact ⟨rfl, by simpa using h6⟩
    | not a t ha =>
      simp only [List.cons_append, List.append_assoc, List.cons.injEq, true_and, List.nil_append] at e
      exact (sh_not ha1 _ _ e.symm).elim
    | neg a t ha =>
      simp only [List.cons_append, List.append_assoc, List.cons.injEq, true_and, List.nil_append] at e
      exact (sh_neg ha1 e.symm).elim
    | isn a t ha =>
      simp only [List.cons_append, List.append_assoc, List.cons.injEq, true_and, List.nil_append] at e
      obtain ⟨h1, h2⟩ := ih1 ha (stop_cons (.inl rfl)) (stop_cons (.inl rfl)) e
      simp only [List.cons.injEq, true_and] at h2
      exact (is_sg ho h2).elim
    | notn a t ha =>
      simp only [List.cons_append, List.append_assoc, List.cons.injEq, true_and, List.nil_append] at e
      obtain ⟨h1, h2⟩ := ih1 ha (stop_cons (.inl rfl)) (stop_cons (.inl rfl)) e
      simp only [List.cons.injEq, true_and] at h2
      exact (is_sg ho h2).elim
  | not a1 s1 ha1 ih1 =>
    intro b t x y hb hx hy e
    cases hb with
    | word c' p' hc' h39' h42' h45' hp' hn' => exact (sh_word_par hc' e.symm).elim
    | text s' => simp at e
    | star => simp at e
    | agg op a t ha ho => exact (sh_agg_par ho (by rw [List.append_assoc] at e; exact e.symm)).elim
    | bin op' b1 b2 t1 t2 hb1 hb2 ho' =>
      simp only [List.cons_append, List.append_assoc, List.cons.injEq, true_and, List.nil_append] at e
      exact (sh_not hb1 _ _ e).elim
    | not a t ha =>
      simp only [List.cons_append, List.append_assoc, List.cons.injEq, true_and, List.nil_append] at e
      obtain ⟨h1, h2⟩ := ih1 ha (stop_cons (.inr rfl)) (stop_cons (.inr rfl)) e
      rw [h1]; exact ⟨rfl, by simpa using h2⟩
    | neg a t ha => simp at e
    | isn a t ha =>
      simp only [List.cons_append, List.append_assoc, List.cons.injEq, true_and, List.nil_append] at e
      exact (sh_not ha _ _ e).elim
    | notn a t ha =>
      simp only [List.cons_append, List.append_assoc, List.cons.injEq, true_and, List.nil_append] at e
      exact (sh_not ha _ _ e).elim
  | neg a1 s1 ha1 ih1 =>
    intro b t x y hb hx hy e
    cases hb with
    | word c' p' hc' h39' h42' h45' hp' hn' => exact (sh_word_par hc' e.symm).elim
    | text s' => simp at e
    | star => simp at e
    | agg op a t ha ho => exact (sh_agg_par ho (by rw [List.append_assoc] at e; exact e.symm)).elim
    | bin op' b1 b2 t1 t2 hb1 hb2 ho' =>
      simp only [List.cons_append, List.append_assoc, List.cons.injEq, true_and, List.nil_append] at e
      exact (sh_neg hb1 e).elim
    | not a t ha => simp at e
    | neg a t ha =>
      simp only [List.cons_append, List.append_assoc, List.cons.injEq, true_and, List.nil_append] at e
      obtain ⟨h1, h2⟩ := ih1 ha (stop_cons (.inr rfl)) (stop_cons (.inr rfl)) e
      rw [h1]; exact ⟨rfl, by simpa using h2⟩
    | isn a t ha =>
      simp only [List.cons_append, List.append_assoc, List.cons.injEq, true_and, List.nil_append] at e
      exact (sh_neg ha e).elim
    | notn a t ha =>
      simp only [List.cons_append, List.append_assoc, List.cons.injEq, true_and, List.nil_append] at e
      exact (sh_neg ha e).elim
  | isn a1 s1 ha1 ih1 =>
    intro b t x y hb hx hy e
    cases hb with
    | word c' p' hc' h39' h42' h45' hp' hn' => exact (sh_word_par hc' e.symm).elim
    | text s' => simp at e
    | star => simp at e
    | agg op a t ha ho => exact (sh_agg_par ho (by rw [List.append_assoc] at e; exact e.symm)).elim
    | bin op' b1 b2 t1 t2 hb1 hb2 ho' =>
      simp only [List.cons_append, List.append_assoc, List.cons.injEq, true_and, List.nil_append] at e
      obtain ⟨h1, h2⟩ := ih1 hb1 (stop_cons (.inl rfl)) (stop_cons (.inl rfl)) e
      simp only [List.cons.injEq, true_and] at h2
      exact (is_sg ho' h2.symm).elim
    | not a t ha =>
      simp only [List.cons_append, List.append_assoc, List.cons.injEq, true_and, List.nil_append] at e
      exact (sh_not ha1 _ _ e.symm).elim
    | neg a t ha =>
      simp only [List.cons_append, List.append_assoc, List.cons.injEq, true_and, List.nil_append] at e
      exact (sh_neg ha1 e.symm).elim
    | isn a t ha =>
      simp only [List.cons_append, List.append_assoc, List.cons.injEq, true_and, List.nil_append] at e
      obtain ⟨h1, h2⟩ := ih1 ha (stop_cons (.inl rfl)) (stop_cons (.inl rfl)) e
      rw [h1]; exact ⟨rfl, by simpa using h2⟩
    | notn a t ha =>
      simp only [List.cons_append, List.append_assoc, List.cons.injEq, true_and, List.nil_append] at e
      obtain ⟨h1, h2⟩ := ih1 ha (stop_cons (.inl rfl)) (stop_cons (.inl rfl)) e
      simp at h2
  | notn a1 s1 ha1 ih1 =>
    intro b t x y hb hx hy e
    cases hb with
    | word c' p' hc' h39' h42' h45' hp' hn' => exact (sh_word_par hc' e.symm).elim
    | text s' => simp at e
    | star => simp at e
    | agg op a t ha ho => exact (sh_agg_par ho (by rw [List.append_assoc] at e; exact e.symm)).elim
    | bin op' b1 b2 t1 t2 hb1 hb2 ho' =>
      simp only [List.cons_append, List.append_assoc, List.cons.injEq, true_and, List.nil_append] at e
      obtain ⟨h1, h2⟩ := ih1 hb1 (stop_cons (.inl rfl)) (stop_cons (.inl rfl)) e
      simp only [List.cons.injEq, true_and] at h2
      exact (is_sg ho' h2.symm).elim
    | not a t ha =>
      simp only [List.cons_append, List.append_assoc, List.cons.injEq, true_and, List.nil_append] at e
      exact (sh_not ha1 _ _ e.symm).elim
    | neg a t ha =>
      simp only [List.cons_append, List.append_assoc, List.cons.injEq, true_and, List.nil_append] at e
      exact (sh_neg ha1 e.symm).elim
    | isn a t ha =>
      simp only [List.cons_append, List.append_assoc, List.cons.injEq, true_and, List.nil_append] at e
      obtain ⟨h1, h2⟩ := ih1 ha (stop_cons (.inl rfl)) (stop_cons (.inl rfl)) e
      simp at h2
    | notn a t ha =>
      simp only [List.cons_append, List.append_assoc, List.cons.injEq, true_and, List.nil_append] at e
      obtain ⟨h1, h2⟩ := ih1 ha (stop_cons (.inl rfl)) (stop_cons (.inl rfl)) e
      rw [h1]; exact ⟨rfl, by simpa using h2⟩
theorem emp_of {s : ByteArray} (h : s.toList.isEmpty = true) : s = ByteArray.empty := by
  rw [List.isEmpty_iff, Lib.toList_data, Array.toList_eq_nil_iff] at h
  exact ByteArray.ext h
theorem name_word {c : UInt8} (h : nameB c = true) : wordB c = true ∧ c ≠ 46 ∧ 48 ≤ c.toNat := by
  unfold nameB lowB digB at h
  simp only [Bool.or_eq_true, Bool.and_eq_true, decide_eq_true_eq, beq_iff_eq] at h
  have hn : ∀ d : UInt8, d.toNat < 48 → c ≠ d := fun d hd e => by subst e; omega
  refine ⟨?_, hn 46 (by decide), by omega⟩
  unfold wordB
  simp only [Bool.and_eq_true, bne_iff_ne]
  exact ⟨⟨hn 32 (by decide), hn 41 (by decide)⟩, hn 40 (by decide)⟩
theorem all_word {l : List UInt8} (h : l.all nameB = true) : l.all wordB = true := by
  rw [List.all_eq_true] at h ⊢
  exact fun x hx => (name_word (h x hx)).1
theorem no_dot {l : List UInt8} (h : l.all nameB = true) : 46 ∉ l := by
  rw [List.all_eq_true] at h
  exact fun hx => (name_word (h _ hx)).2.1 rfl
theorem low_ne {c : UInt8} (h : lowB c = true) : 97 ≤ c.toNat ∧ nameB c = true := by
  refine ⟨?_, by unfold nameB; rw [h]; rfl⟩
  unfold lowB at h
  simp only [Bool.and_eq_true, decide_eq_true_eq] at h
  exact h.1
theorem word_col {c : UInt8} {p : List UInt8} (hc : 97 ≤ c.toNat) : wordE (c :: p) = if 46 ∈ c :: p then .mk 2 0 null ⟨((c :: p).takeWhile (fun c => c != 46)).toArray⟩ ⟨(((c :: p).dropWhile (fun c => c != 46)).tail).toArray⟩ [] else .mk 2 0 null nobE ⟨(c :: p).toArray⟩ [] := by
  have hn : ∀ d : UInt8, d.toNat < 97 → c ≠ d := fun d hd e => by subst e; omega
  unfold wordE
  rw [if_neg (by simp only [List.cons.injEq]; exact fun h => hn 78 (by decide) h.1), if_neg (by simp only [List.cons.injEq]; exact fun h => hn 84 (by decide) h.1), if_neg (by simp only [List.cons.injEq]; exact fun h => hn 70 (by decide) h.1), if_neg (by simp only [List.headD_cons]; omega)]
theorem goodL_cons {l : List UInt8} (h : goodL l = true) : ∃ c p, l = c :: p ∧ lowB c = true ∧ (c :: p).all nameB = true := by
  unfold goodL at h
  split at h
  · cases h
  · simp only [Bool.and_eq_true] at h
    exact ⟨_, _, rfl, h.1.2, h.2⟩
theorem take_dot {l r : List UInt8} (h : 46 ∉ l) : (l ++ 46 :: r).takeWhile (fun c => c != 46) = l ∧ (l ++ 46 :: r).dropWhile (fun c => c != 46) = 46 :: r := by
  induction l with
  | nil => exact ⟨by simp, by simp⟩
  | cons a l ih =>
    simp only [List.mem_cons, not_or] at h
    obtain ⟨h1, h2⟩ := ih h.2
    have : (a != 46) = true := by simp only [bne_iff_ne]; exact fun e => h.1 e.symm
    simp only [List.cons_append, List.takeWhile_cons, List.dropWhile_cons, this, if_true, h1, h2, and_self]
theorem back (s : ByteArray) : (⟨s.data.toList.toArray⟩ : ByteArray) = s := ByteArray.ext (Array.toArray_toList)
theorem col_sh (tb nm : ByteArray) (hn : goodL nm.data.toList = true) (ht : tb = ByteArray.empty ∨ goodL tb.data.toList = true) : Sh (.mk 2 0 null tb nm []) (if tb.toList.isEmpty then nm else tb ++ ⟨#[46]⟩ ++ nm).data.toList := by
  obtain ⟨c, p, e, hc, hp⟩ := goodL_cons hn
  obtain ⟨hc1, hc2⟩ := low_ne hc
  have hw := all_word hp
  rw [List.all_cons, Bool.and_eq_true] at hw
  have hne : ∀ (c : UInt8), 97 ≤ c.toNat → ∀ d : UInt8, d.toNat < 97 → c ≠ d := fun c hc d hd e => by subst e; omega
  rcases ht with rfl | ht
  · rw [if_pos (by rw [Lib.toList_data]; rfl)]
    have h1 := Sh.word c p hw.1 (hne c hc1 _ (by decide)) (hne c hc1 _ (by decide)) (hne c hc1 _ (by decide)) hw.2 (by simp only [ne_eq, List.cons.injEq]; exact fun h => hne c hc1 78 (by decide) h.1)
    rw [word_col hc1, if_neg (no_dot hp), ← e, back] at h1
    exact h1
  · obtain ⟨d, q, e', hd, hq⟩ := goodL_cons ht
    obtain ⟨hd1, hd2⟩ := low_ne hd
    have hv := all_word hq
    rw [List.all_cons, Bool.and_eq_true] at hv
    rw [if_neg (by rw [Lib.toList_data, e']; simp)]
    have hl : (tb ++ ⟨#[46]⟩ ++ nm).data.toList = d :: (q ++ 46 :: c :: p) := by
      rw [ByteArray.data_append, ByteArray.data_append, Array.toList_append, Array.toList_append, e', e]; simp
    rw [hl]
    have h1 := Sh.word d (q ++ 46 :: c :: p) hv.1 (hne d hd1 _ (by decide)) (hne d hd1 _ (by decide)) (hne d hd1 _ (by decide)) (by rw [List.all_append, hv.2, List.all_cons, List.all_cons, hw.1, hw.2]; decide) (by simp only [ne_eq, List.cons.injEq]; exact fun h => hne d hd1 78 (by decide) h.1)
    obtain ⟨t1, t2⟩ := take_dot (r := c :: p) (no_dot hq)
    rw [word_col hd1, if_pos (by simp), ← List.cons_append, t1, t2, List.tail_cons, ← e, ← e', back, back] at h1
    rw [← List.cons_append, ← e, ← e'] at *
    exact h1
theorem dig_ge {c : UInt8} (h : digB c = true) : 48 ≤ c.toNat ∧ c.toNat ≤ 57 := by
  unfold digB at h
  simpa only [Bool.and_eq_true, decide_eq_true_eq] using h
theorem dig_all {l : List UInt8} (h : l.all digB = true) : l.all wordB = true := by
  rw [List.all_eq_true] at h ⊢
  intro x hx
  have h1 := h x hx
  exact (name_word (by unfold nameB; rw [h1]; simp)).1
theorem lit_sh (v : V) (hg : gB v.k v.n v.s = true) (h2 : v.k ≠ 2 ∨ 0 ≤ v.n) : Sh (.mk 1 0 v nobE nobE []) (showV v.k v.n v.s).data.toList := by
  obtain ⟨k, n, s⟩ := v
  dsimp only at hg h2 ⊢
  unfold showV
  rw [hg]
  unfold gB at hg
  by_cases k0 : k = 0
  · subst k0
    rw [if_pos rfl] at hg
    simp only [Bool.and_eq_true, beq_iff_eq] at hg
    obtain ⟨rfl, hs⟩ := hg
    rw [emp_of hs, if_pos (.inr rfl)]
    exact Sh.word 78 [85, 76, 76] (by decide) (by decide) (by decide) (by decide) (by decide) (by decide)
  · rw [if_neg k0] at hg
    rw [if_neg (by simp [k0])]
    by_cases k1 : k = 1
    · subst k1
      rw [if_pos rfl] at hg
      simp only [Bool.and_eq_true, Bool.or_eq_true, beq_iff_eq] at hg
      rw [if_pos rfl, emp_of hg.2]
      rcases hg.1 with rfl | rfl
      · rw [if_neg (by decide)]
        exact Sh.word 70 [65, 76, 83, 69] (by decide) (by decide) (by decide) (by decide) (by decide) (by decide)
      · rw [if_pos rfl]
        exact Sh.word 84 [82, 85, 69] (by decide) (by decide) (by decide) (by decide) (by decide) (by decide)
    · rw [if_neg k1] at hg ⊢
      by_cases k2 : k = 2
      · subst k2
        rw [if_pos rfl] at hg ⊢
        rw [emp_of hg]
        obtain ⟨u, rfl⟩ : ∃ u : Nat, n = (u : Int) := ⟨n.toNat, by rcases h2 with h | h <;> first | exact absurd rfl h | omega⟩
        rw [lx.itoa_nat]
        obtain ⟨d1, d2, d3⟩ := lx.dec_all u
        show Sh _ (Lib.decDigits u)
        generalize Lib.decDigits u = w at *
        cases w with
        | nil => exact absurd rfl d3
        | cons c p =>
          have hc : digB c = true := by rw [List.all_cons, Bool.and_eq_true] at d1; exact d1.1
          obtain ⟨g1, g2⟩ := dig_ge hc
          have hw := dig_all d1
          rw [List.all_cons, Bool.and_eq_true] at hw
          have hlo : ∀ d : UInt8, d.toNat < 48 → c ≠ d := fun d hd e => by subst e; omega
          have hhi : ∀ d : UInt8, 57 < d.toNat → c ≠ d := fun d hd e => by subst e; omega
          have h1 := Sh.word c p hw.1 (hlo _ (by decide)) (hlo _ (by decide)) (hlo _ (by decide)) hw.2 (by simp only [ne_eq, List.cons.injEq]; exact fun h => hhi 78 (by decide) h.1)
          unfold wordE at h1
          rw [if_neg (by simp only [List.cons.injEq]; exact fun h => hhi 78 (by decide) h.1), if_neg (by simp only [List.cons.injEq]; exact fun h => hhi 84 (by decide) h.1), if_neg (by simp only [List.cons.injEq]; exact fun h => hhi 70 (by decide) h.1), if_pos (by simp only [List.headD_cons]; omega), d2] at h1
          exact h1
      · rw [if_neg k2] at hg ⊢
        by_cases k3 : k = 3
        · subst k3
          rw [if_pos rfl] at hg
          simp only [Bool.and_eq_true, beq_iff_eq] at hg
          obtain ⟨rfl, -⟩ := hg
          rw [val.quote_dup]
          exact Sh.text s
        · rw [if_neg k3] at hg; cases hg
theorem may_sh : ∀ (e : Ex) (g : Bool), mayE e g → Sh e (showE e).data.toList := by
  intro e
  induction e using Ex.ind with
  | h k op v tb nm l ih =>
    intro g hm
    unfold mayE at hm
    obtain ⟨hp, -, hk⟩ := hm
    rw [mayEs_all] at hk
    rw [showE_eq]
    show Sh _ (glue k op v tb nm (l.map showE)).data.toList
    have IH : ∀ x ∈ l, Sh x (showE x).data.toList := fun x hx => ih x hx _ (hk x hx)
    unfold plainP at hp
    unfold glue
    rcases hp with ⟨rfl, rfl, rfl, rfl, hn, h1, h2⟩ | ⟨rfl, rfl, rfl, hn, h1, h2⟩ | ⟨rfl, rfl, rfl, rfl, hn, h1, h2⟩ | ⟨hk', rfl, rfl, rfl, rfl, hn⟩ | ⟨rfl, rfl, rfl, rfl, h1, h2, hn⟩
    · rw [if_pos rfl]
      obtain rfl := List.length_eq_zero_iff.1 hn
      exact lit_sh v h1 h2
    · rw [if_neg (by decide), if_pos rfl]
      obtain rfl := List.length_eq_zero_iff.1 hn
      exact col_sh tb nm h1 h2
    · obtain ⟨a, b, rfl⟩ : ∃ a b, l = [a, b] := by
        match l, hn with
        | [a, b], _ => exact ⟨a, b, rfl⟩
      rw [if_neg (by decide), if_neg (by decide), if_pos rfl]
      have h3 := Sh.bin op a b _ _ (IH a (by simp)) (IH b (by simp)) ⟨h1, h2⟩
      simpa [signE, sgL, ByteArray.data_append] using h3
    · obtain ⟨a, rfl⟩ : ∃ a, l = [a] := List.length_eq_one_iff.1 hn
      have ha := IH a (by simp)
      rcases hk' with rfl | rfl | rfl | rfl
      · simpa [ByteArray.data_append] using Sh.not a _ ha
      · simpa [ByteArray.data_append] using Sh.neg a _ ha
      · simpa [ByteArray.data_append] using Sh.isn a _ ha
      · simpa [ByteArray.data_append] using Sh.notn a _ ha
    · rw [if_neg (by decide), if_neg (by decide), if_neg (by decide), if_neg (by decide), if_neg (by decide), if_neg (by decide), if_neg (by decide)]
      rcases hn with ⟨rfl, hn⟩ | hn
      · obtain rfl := List.length_eq_zero_iff.1 hn
        exact Sh.star
      · obtain ⟨a, rfl⟩ : ∃ a, l = [a] := List.length_eq_one_iff.1 hn
        rw [if_neg (by simp)]
        have h3 := Sh.agg op a _ (IH a (by simp)) ⟨h1, h2⟩
        simpa [nameE, nmL, ByteArray.data_append] using h3
/-- what is shown tells the tree -/
theorem showE_inj {a b : Ex} {g g' : Bool} (ha : mayE a g) (hb : mayE b g') (h : showE a = showE b) : a = b :=
  (sh_inj (may_sh a g ha) (may_sh b g' hb) (x := []) (y := []) (.inl rfl) (.inl rfl) (by rw [h])).1
theorem showE_ne {a : Ex} {g : Bool} (ha : mayE a g) : showE a ≠ ByteArray.empty := by
  intro h
  obtain ⟨c, r, e, -⟩ := sh_head (may_sh a g ha)
  rw [h] at e
  cases e
end Go.Proofs.YtfnajccnlcfbiaaDoor.ex
