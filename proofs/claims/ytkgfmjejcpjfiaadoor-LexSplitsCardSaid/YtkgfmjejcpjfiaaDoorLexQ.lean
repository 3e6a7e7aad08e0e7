/- Tokens joined are split into the same tokens: plain. -/
import Derived.Test.YtkgfmjejcpjfiaaDoorLexP
import Derived.Test.YtkgfmjejcpjfiaaDoorValueK
import Derived.Lib.ItoaNum
import Derived.Lib.Join
namespace Go.Proofs.YtkgfmjejcpjfiaaDoor.lx
set_option linter.unusedVariables false

/-- a token as it is written -/
def writeL (t : Tk) : List UInt8 := if t.k = 3 then Lib.itoa (t.n : Int) else if t.k = 4 then 39 :: (val.dup t.s ++ [39]) else t.s
def joinT (ts : List Tk) : List UInt8 := Lib.join (ts.map writeL) [32]
/-- what may stand behind a token: nothing, or a blank -/
def Rest (r : List UInt8) : Prop := r = [] ∨ ∃ q, r = 32 :: q
/-- a token that is read again as it is -/
def WfT (t : Tk) : Prop := ∃ c w, writeL t = c :: w ∧ blankB c = false ∧ ∀ r, Rest r → ∃ s, firstL (writeL t ++ r) = .tok t.k s t.n w.length ∧ (t.k ≠ 3 → s = t.s)

theorem take_rest (p : UInt8 → Bool) (h32 : p 32 = false) (s r : List UInt8) (h : s.all p = true) (hr : Rest r) : (s ++ r).takeWhile p = s := by
  induction s with
  | nil =>
    rcases hr with rfl | ⟨q, rfl⟩
    · rfl
    · rw [List.nil_append, List.takeWhile_cons, h32]; rfl
  | cons a s ih =>
    rw [List.all_cons, Bool.and_eq_true] at h
    rw [List.cons_append, List.takeWhile_cons, if_pos h.1, ih h.2]
theorem low_facts {c : UInt8} (h : lowB c = true) : 97 ≤ c.toNat ∧ c.toNat ≤ 122 := by unfold lowB at h; simpa using h
theorem up_facts {c : UInt8} (h : upB c = true) : 65 ≤ c.toNat ∧ c.toNat ≤ 90 := by unfold upB at h; simpa using h
theorem dig_facts {c : UInt8} (h : digB c = true) : 48 ≤ c.toNat ∧ c.toNat ≤ 57 := by unfold digB at h; simpa using h
theorem blank_no {c : UInt8} (h : 39 ≤ c.toNat) : blankB c = false := by unfold blankB; simp; omega
theorem dig_low {c : UInt8} (h : digB c = true) : lowB c = false ∧ upB c = false := by
  have := dig_facts h
  unfold lowB upB
  exact ⟨by simp; omega, by simp; omega⟩
theorem up_low {c : UInt8} (h : upB c = true) : lowB c = false := by
  have := up_facts h
  unfold lowB
  simp; omega
/-- the digits of a number -/
theorem dec_all (u : Nat) : (Lib.decDigits u).all digB = true ∧ valL (Lib.decDigits u) = u ∧ Lib.decDigits u ≠ [] := by
  induction u using Nat.strongRecOn with
  | _ u ih =>
    have hd : ∀ v, v < 10 → digB (UInt8.ofNat (48 + v)) = true ∧ (UInt8.ofNat (48 + v)).toNat - 48 = v := by
      intro v hv
      have h : (UInt8.ofNat (48 + v)).toNat = 48 + v := by simp; omega
      unfold digB
      rw [h]
      exact ⟨by simp; omega, by omega⟩
    by_cases h : u < 10
    · rw [Lib.decDigits, dif_pos h]
      obtain ⟨h1, h2⟩ := hd u h
      refine ⟨by simp only [List.all_cons, List.all_nil, Bool.and_true]; exact h1, ?_, by simp⟩
      unfold valL
      simp only [List.foldl_cons, List.foldl_nil]
      omega
    · rw [Lib.decDigits, dif_neg h]
      obtain ⟨h1, h2⟩ := hd (u % 10) (by omega)
      obtain ⟨i1, i2, i3⟩ := ih (u / 10) (by omega)
      refine ⟨by rw [List.all_append, i1]; simp only [List.all_cons, List.all_nil, Bool.and_true, Bool.true_and]; exact h1, ?_, by simp⟩
      unfold valL at i2 ⊢
      rw [List.foldl_append, i2]
      simp only [List.foldl_cons, List.foldl_nil]
      omega
theorem dec_len : ∀ (k u : Nat), u < 10 ^ (k + 1) → (Lib.decDigits u).length ≤ k + 1 := by
  intro k
  induction k with
  | zero => intro u h; rw [Lib.decDigits, dif_pos (by simpa using h)]; simp
  | succ k ih =>
    intro u h
    by_cases h10 : u < 10
    · rw [Lib.decDigits, dif_pos h10]; simp
    · rw [Lib.decDigits, dif_neg h10, List.length_append]
      have := ih (u / 10) (by rw [Nat.pow_succ] at h; omega)
      simp; omega
theorem itoa_nat (n : Nat) : Lib.itoa (n : Int) = Lib.decDigits n := by
  unfold Lib.itoa
  rw [if_neg (by omega)]; rfl
theorem num_wf (n : Nat) (hn : n ≤ 9223372036854775807) (r : List UInt8) (hr : Rest r) : ∃ c w, Lib.decDigits n = c :: w ∧ digB c = true ∧ firstL (Lib.decDigits n ++ r) = .tok 3 (Lib.decDigits n) n w.length := by
  obtain ⟨h1, h2, h3⟩ := dec_all n
  have hl := dec_len 18 n (by omega)
  generalize Lib.decDigits n = d at *
  cases d with
  | nil => exact absurd rfl h3
  | cons c w =>
    have hc : digB c = true := by rw [List.all_cons, Bool.and_eq_true] at h1; exact h1.1
    refine ⟨c, w, rfl, hc, ?_⟩
    rw [List.cons_append]
    simp only [firstL]
    rw [(dig_low hc).1, (dig_low hc).2, hc, ← List.cons_append, take_rest digB (by decide) (c :: w) r h1 hr]
    simp only [Bool.false_eq_true, if_false, if_true]
    unfold numL
    rw [if_neg (by omega), h2, if_neg (by omega)]; rfl
theorem text_again (rest : List UInt8) (hr : Rest rest) : ∀ (s P acc : List UInt8), (acc ++ s).length ≤ 64 → textL (P ++ (val.dup s ++ 39 :: rest)) P.length acc = .tok 4 (acc ++ s) 0 (P.length + (val.dup s).length)
  | [], P, acc, h => by
    rw [val.dup_nil, List.nil_append, List.append_nil]
    have hi : P.length < (P ++ 39 :: rest).length := by simp
    rw [textL, dif_pos hi, if_pos (by simp), if_neg (by
      rw [List.getElem?_append_right (by omega), show P.length + 1 - P.length = 1 by omega, List.getElem?_cons_succ]
      rcases hr with rfl | ⟨q, rfl⟩
      · simp
      · simp), if_neg (by simp at h; omega)]
    rfl
  | c :: s, P, acc, h => by
    have ih := fun P' acc' => text_again rest hr s P' acc'
    rw [val.dup_cons]
    by_cases hc : c = 39
    · subst hc
      rw [if_pos rfl]
      have e : P ++ ([39, 39] ++ val.dup s ++ 39 :: rest) = (P ++ [39, 39]) ++ (val.dup s ++ 39 :: rest) := by simp
      rw [e]
      have hi : P.length < ((P ++ [39, 39]) ++ (val.dup s ++ 39 :: rest)).length := by simp
      have h2 := ih (P ++ [39, 39]) (acc ++ [39]) (by simpa using h)
      rw [textL, dif_pos hi, if_pos (by simp), if_pos (by simp)]
      have hl2 : (P ++ [39, 39] : List UInt8).length = P.length + 2 := by simp
      rw [hl2] at h2
      rw [h2]
      congr 1
      · simp
      · simp; omega
    · rw [if_neg hc]
      have e : P ++ ([c] ++ val.dup s ++ 39 :: rest) = (P ++ [c]) ++ (val.dup s ++ 39 :: rest) := by simp
      rw [e]
      have hi : P.length < ((P ++ [c]) ++ (val.dup s ++ 39 :: rest)).length := by simp
      have h2 := ih (P ++ [c]) (acc ++ [c]) (by simpa using h)
      have hg : ((P ++ [c]) ++ (val.dup s ++ 39 :: rest))[P.length] = c := by simp
      rw [textL, dif_pos hi, if_neg (by rw [hg]; exact hc), hg]
      have hl2 : (P ++ [c] : List UInt8).length = P.length + 1 := by simp
      rw [hl2] at h2
      rw [h2]
      congr 1
      · simp
      · simp; omega
theorem sign_again : ∀ s ∈ signsL, (∃ c w, s = c :: w ∧ lowB c = false ∧ upB c = false ∧ digB c = false ∧ c ≠ 39 ∧ blankB c = false ∧ w.length ≤ 1) ∧ signsL.find? (fun x => x.isPrefixOf s) = some s ∧ ∀ q, signsL.find? (fun x => x.isPrefixOf (s ++ 32 :: q)) = some s := by
  intro s hs
  unfold signsL at hs
  simp only [List.mem_cons, List.mem_nil_iff, or_false] at hs
  rcases hs with rfl | rfl | rfl | rfl | rfl | rfl | rfl | rfl | rfl | rfl | rfl | rfl | rfl | rfl | rfl | rfl <;>
    exact ⟨⟨_, _, rfl, by decide, by decide, by decide, by decide, by decide, by decide⟩, by decide, fun q => by unfold signsL; simp [List.find?, List.isPrefixOf]⟩
theorem wf_first (l : List UInt8) {k : Nat} {s : List UInt8} {n m : Nat} (i : Nat) (h : firstL l = .tok k s n m) : WfT ⟨k, s, n, i⟩ := by
  cases l with
  | nil => cases h
  | cons c r =>
    simp only [firstL] at h
    split at h
    · next hl =>
      obtain ⟨rfl, rfl, rfl, rfl, h16⟩ := word_kind h
      have ha := all_of_takeWhile nameB (c :: r)
      rw [List.takeWhile_cons, if_pos (low_name hl)] at h16 ha ⊢
      refine ⟨c, r.takeWhile nameB, rfl, low_blank hl, fun q hq => ⟨_, ?_, fun _ => rfl⟩⟩
      show firstL ((c :: r.takeWhile nameB) ++ q) = _
      have ht := take_rest nameB (by decide) _ q ha hq
      rw [List.cons_append] at ht ⊢
      simp only [firstL]
      rw [if_pos hl, ht]
      unfold wordL
      rw [if_neg (by omega)]; rfl
    · next hl =>
      split at h
      · next hu =>
        obtain ⟨rfl, rfl, rfl, rfl, h16⟩ := word_kind h
        have ha := all_of_takeWhile upB (c :: r)
        rw [List.takeWhile_cons, if_pos hu] at h16 ha ⊢
        refine ⟨c, r.takeWhile upB, rfl, blank_no (by have := up_facts hu; omega), fun q hq => ⟨_, ?_, fun _ => rfl⟩⟩
        show firstL ((c :: r.takeWhile upB) ++ q) = _
        have ht := take_rest upB (by decide) _ q ha hq
        rw [List.cons_append] at ht ⊢
        simp only [firstL]
        rw [if_neg hl, if_pos hu, ht]
        unfold wordL
        rw [if_neg (by omega)]; rfl
      · split at h
        · unfold numL at h
          split at h
          · cases h
          · split at h
            · cases h
            · next hv =>
              cases h
              have hw : writeL ⟨3, (c :: r).takeWhile digB, valL ((c :: r).takeWhile digB), i⟩ = Lib.decDigits (valL ((c :: r).takeWhile digB)) := by unfold writeL; rw [if_pos rfl, itoa_nat]
              obtain ⟨c', w', hcw, hdc, -⟩ := num_wf (valL ((c :: r).takeWhile digB)) (by omega) [] (.inl rfl)
              refine ⟨c', w', by rw [hw, hcw], blank_no (by have := dig_facts hdc; omega), fun q hq => ?_⟩
              obtain ⟨c2, w2, hcw2, -, hf⟩ := num_wf (valL ((c :: r).takeWhile digB)) (by omega) q hq
              rw [hcw] at hcw2
              obtain ⟨-, rfl⟩ := List.cons.inj hcw2
              rw [hw]
              exact ⟨_, hf, fun h => absurd rfl h⟩
        · split at h
          · obtain ⟨rfl, rfl, h64, -, -⟩ := text_kind _ _ _ h
            have hw : writeL ⟨4, s, 0, i⟩ = 39 :: (val.dup s ++ [39]) := by unfold writeL; rw [if_neg (by show ¬ (4 = 3); decide), if_pos rfl]
            refine ⟨39, val.dup s ++ [39], hw, by decide, fun q hq => ⟨s, ?_, fun _ => rfl⟩⟩
            rw [hw]
            have ht := text_again q hq s [39] [] (by simpa using h64)
            have e : (39 :: (val.dup s ++ [39])) ++ q = [39] ++ (val.dup s ++ 39 :: q) := by simp
            rw [e, List.cons_append, List.nil_append]
            simp only [firstL]
            rw [if_neg (by decide), if_neg (by decide), if_neg (by decide)]
            rw [if_pos trivial]
            rw [List.cons_append, List.nil_append] at ht
            rw [show ([39] : List UInt8).length = 1 from rfl] at ht
            rw [ht]
            congr 1
            simp; omega
          · obtain ⟨rfl, rfl, -, hs, -⟩ := sign_kind _ h
            obtain ⟨⟨c', w', rfl, g1, g2, g3, g4, g5, g6⟩, f1, f2⟩ := sign_again s hs
            refine ⟨c', w', rfl, g5, fun q hq => ⟨c' :: w', ?_, fun _ => rfl⟩⟩
            show firstL ((c' :: w') ++ q) = _
            rcases hq with rfl | ⟨q', rfl⟩
            · rw [List.append_nil]
              simp only [firstL]
              rw [g1, g2, g3, if_neg g4]
              simp only [Bool.false_eq_true, if_false]
              unfold signL
              rw [f1]; rfl
            · have f := f2 q'
              rw [List.cons_append] at f ⊢
              simp only [firstL]
              rw [g1, g2, g3, if_neg g4]
              simp only [Bool.false_eq_true, if_false]
              unfold signL
              rw [f]; rfl
theorem split_wf (l : List UInt8) (us : List Tk) (h : splitT l = .ok us) : ∀ t ∈ us, WfT t := by
  have key : ∀ (i : Nat) (ts : List Tk), splitL l i ts = .ok us → (∀ t ∈ ts, WfT t) → ∀ t ∈ us, WfT t := by
    intro i ts
    induction i, ts using splitL.induct (l := l) with
    | case1 i ts hi hb ih => intro h h1; rw [split_blank l i ts hi hb] at h; exact ih h h1
    | case2 i ts hi hb e hf => intro h h1; rw [split_bad l i ts e hi (by simpa using hb) hf] at h; cases h
    | case3 i ts hi hb k s n m hf ih =>
      intro h h1
      rw [split_tok l i ts k s n m hi (by simpa using hb) hf] at h
      refine ih h ?_
      intro t ht
      rcases List.mem_append.1 ht with ht | ht
      · exact h1 t ht
      · rw [List.mem_singleton.1 ht]; exact wf_first _ i hf
    | case4 i ts hi => intro h h1; rw [split_end l i ts (by omega)] at h; cases h; exact h1
  unfold splitT at h
  split at h
  · cases h
  · exact key 0 [] h (fun t ht => absurd ht (by simp))
/-- tokens that say the same -/
def SameT : List Tk → List Tk → Prop
  | [], [] => True
  | t :: ts, u :: us => u.k = t.k ∧ u.n = t.n ∧ (t.k ≠ 3 → u.s = t.s) ∧ SameT ts us
  | _, _ => False
theorem join_one (t : Tk) : joinT [t] = writeL t := by unfold joinT; rw [List.map_singleton, Lib.join_one]
theorem join_more (t u : Tk) (r : List Tk) : joinT (t :: u :: r) = writeL t ++ 32 :: joinT (u :: r) := by
  unfold joinT
  rw [List.map_cons, List.map_cons, Lib.join_cons, Lib.join_cons]
  simp [Lib.joinTail]
theorem again (ts : List Tk) (h : ∀ t ∈ ts, WfT t) : ∀ (P : List UInt8) (acc : List Tk), ∃ us, splitL (P ++ joinT ts) P.length acc = .ok (acc ++ us) ∧ SameT ts us := by
  induction ts with
  | nil => intro P acc; exact ⟨[], by rw [show joinT [] = [] from rfl, split_end _ _ _ (by simp), List.append_nil], trivial⟩
  | cons t r ih =>
    intro P acc
    have ih := ih (fun x hx => h x (List.mem_cons_of_mem _ hx))
    obtain ⟨c, w, hw, hb, hf⟩ := h t (List.mem_cons_self ..)
    have go : ∀ R, Rest R → ∃ s, splitL (P ++ (writeL t ++ R)) P.length acc = splitL (P ++ (writeL t ++ R)) (P.length + (w.length + 1)) (acc ++ [⟨t.k, s, t.n, P.length⟩]) ∧ (t.k ≠ 3 → s = t.s) := by
      intro R hR
      obtain ⟨s, h1, h2⟩ := hf R hR
      refine ⟨s, split_tok _ _ _ _ _ _ _ (by rw [hw]; simp) ?_ ?_, h2⟩
      · have e : (P ++ (writeL t ++ R))[P.length]'(by rw [hw]; simp) = c := by simp [hw]
        rw [e]; exact hb
      · rw [List.drop_append_of_le_length (Nat.le_refl _), List.drop_length, List.nil_append]; exact h1
    cases r with
    | nil =>
      rw [join_one]
      obtain ⟨s, h1, h2⟩ := go [] (.inl rfl)
      rw [List.append_nil] at h1
      refine ⟨[⟨t.k, s, t.n, P.length⟩], ?_, rfl, rfl, h2, trivial⟩
      rw [h1, split_end _ _ _ (by rw [List.length_append, hw]; simp)]
    | cons u r =>
      rw [join_more]
      obtain ⟨s, h1, h2⟩ := go (32 :: joinT (u :: r)) (.inr ⟨_, rfl⟩)
      have e : P ++ (writeL t ++ 32 :: joinT (u :: r)) = (P ++ writeL t ++ [32]) ++ joinT (u :: r) := by simp
      obtain ⟨us, h3, h4⟩ := ih (P ++ writeL t ++ [32]) (acc ++ [⟨t.k, s, t.n, P.length⟩])
      have hl : (P ++ writeL t ++ [32]).length = P.length + (w.length + 1) + 1 := by rw [List.length_append, List.length_append, hw]; rfl
      refine ⟨⟨t.k, s, t.n, P.length⟩ :: us, ?_, rfl, rfl, h2, h4⟩
      rw [h1, split_blank _ _ _ (by rw [hw]; simp) (by
        have hx : (P ++ (writeL t ++ 32 :: joinT (u :: r)))[P.length + (w.length + 1)]? = some 32 := by
          rw [List.getElem?_append_right (by omega), show P.length + (w.length + 1) - P.length = w.length + 1 by omega, hw, List.getElem?_append_right (by simp)]
          simp
        have hx2 := (List.getElem?_eq_some_iff.1 hx).2
        rw [hx2]; rfl), ← hl, e, h3, List.append_assoc]
      rfl
theorem same_len : ∀ (ts us : List Tk), SameT ts us → us.length = ts.length
  | [], [], _ => rfl
  | t :: ts, u :: us, h => by rw [List.length_cons, List.length_cons, same_len ts us h.2.2.2]
theorem same_at : ∀ (ts us : List Tk), SameT ts us → ∀ (j : Nat) t u, ts[j]? = some t → us[j]? = some u → u.k = t.k ∧ u.n = t.n ∧ (t.k ≠ 3 → u.s = t.s)
  | [], [], _, j, t, u, h, _ => by simp at h
  | t :: ts, u :: us, h, 0, a, b, h1, h2 => by simp at h1 h2; subst h1 h2; exact ⟨h.1, h.2.1, h.2.2.1⟩
  | t :: ts, u :: us, h, j + 1, a, b, h1, h2 => same_at ts us h.2.2.2 j a b (by simpa using h1) (by simpa using h2)
theorem resplit (l : List UInt8) (ts : List Tk) (h : splitT l = .ok ts) : (2000 < (joinT ts).length ∧ splitT (joinT ts) = .bad 0 3) ∨ ∃ us, (joinT ts).length ≤ 2000 ∧ splitT (joinT ts) = .ok us ∧ SameT ts us := by
  by_cases hl : 2000 < (joinT ts).length
  · exact .inl ⟨hl, splitT_long _ hl⟩
  · obtain ⟨us, h1, h2⟩ := again ts (split_wf l ts h) [] []
    exact .inr ⟨us, by omega, by unfold splitT; rw [if_neg hl]; simpa using h1, h2⟩
end Go.Proofs.YtkgfmjejcpjfiaaDoor.lx
