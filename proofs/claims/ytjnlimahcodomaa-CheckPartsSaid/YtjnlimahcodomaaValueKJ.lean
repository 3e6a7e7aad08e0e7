/- Numerals and quotes as plain mathematics. No program. -/
import Derived.Test.YtjnlimahcodomaaValueP
import Derived.Lib.Replace
import Derived.Lib.ReplaceLaws
import Derived.Lib.CountLaws
import Derived.Lib.ItoaNum
import Derived.Test.YtjnlimahcodomaaValueCF
import Derived.LoopTactic
import Derived.Outline
import Derived.Deep.RegionHeld3
namespace Go.Proofs.Ytjnlimahcodomaa.val
set_option linter.unusedVariables false
/-- a text's bytes, each quote twice -/
def dup (l : List UInt8) : List UInt8 := l.flatMap fun c => if c = 39 then [39, 39] else [c]
theorem dup_cons (l : List UInt8) (c : UInt8) : dup (c :: l) = (if c = 39 then [39, 39] else [c]) ++ dup l := by simp [dup]
theorem replaceK_dup : ∀ l : List UInt8, Lib.replaceK [39] [39, 39] (Lib.count l [39]) l = dup l
  | [] => by
    have h : Lib.index [] [39] = -1 := by decide
    rw [Lib.count_miss h]; rfl
  | c :: l => by
    have ih := replaceK_dup l
    rw [dup_cons]
    by_cases hc : c = 39
    · subst hc
      have h : Lib.index (39 :: l) [39] = ((0 : Nat) : Int) := by unfold Lib.index; simp
      rw [Lib.count_hit (by decide) h]
      have e : (39 :: l).drop (0 + [(39 : UInt8)].length) = l := rfl
      rw [e, Nat.add_comm, Lib.replaceK_hit _ _ _ _ 0 h, e, ih, if_pos rfl]
      rfl
    · rw [if_neg hc]
      have hp : ([39] : List UInt8).isPrefixOf (c :: l) = false := by simp [List.isPrefixOf]; exact fun e => hc e.symm
      by_cases hm : Lib.index l [39] = -1
      · have h : Lib.index (c :: l) [39] = -1 := by unfold Lib.index; rw [hp, hm]; simp
        rw [Lib.count_miss h]
        rw [Lib.count_miss hm] at ih
        have e : Lib.replaceK [39] [39, 39] 0 l = l := rfl
        rw [e] at ih
        rw [← ih]; rfl
      · have hg := Lib.index_ge l [39]
        obtain ⟨i, hi⟩ : ∃ i : Nat, Lib.index l [39] = i := ⟨(Lib.index l [39]).toNat, by omega⟩
        have h : Lib.index (c :: l) [39] = ((i + 1 : Nat) : Int) := by
          unfold Lib.index; rw [hp, hi]
          have : ((i : Int) == -1) = false := by simp
          simp [this]
        rw [Lib.count_hit (by decide) h]
        rw [Lib.count_hit (by decide) hi] at ih
        have e1 : (c :: l).drop (i + 1 + [(39 : UInt8)].length) = l.drop (i + [(39 : UInt8)].length) := rfl
        rw [e1, Nat.add_comm, Lib.replaceK_hit _ _ _ _ (i + 1) h, e1]
        rw [Nat.add_comm, Lib.replaceK_hit _ _ _ _ i hi] at ih
        rw [← ih]; rfl
theorem replaceAll_dup (l : List UInt8) : Lib.replaceAll l [39] [39, 39] = dup l := by
  unfold Lib.replaceAll Lib.replace Lib.replaceNum
  rw [if_neg (by decide), if_pos (.inl (by decide))]
  exact replaceK_dup l
/-- one digit -/
def dig (u : Nat) : UInt8 := UInt8.ofNat (48 + u % 10)
theorem dec_last {u : Nat} (h : u / 10 = 0) : Lib.decDigits u = [dig u] := by
  have hu : u < 10 := by omega
  rw [Lib.decDigits, dif_pos hu]; unfold dig; rw [Nat.mod_eq_of_lt hu]
theorem dec_more {u : Nat} (h : u / 10 ≠ 0) : Lib.decDigits u = Lib.decDigits (u / 10) ++ [dig u] := by
  rw [Lib.decDigits, dif_neg (by omega)]; rfl
/-- ahead of a round: what is left, what is written -/
def Dig (n u : Nat) (out : List UInt8) : Prop := Lib.decDigits n = Lib.decDigits u ++ out
theorem Dig.step {n u : Nat} {out : List UInt8} (h : Dig n u out) (hu : u / 10 ≠ 0) : Dig n (u / 10) (dig u :: out) := by
  unfold Dig at *; rw [h, dec_more hu]; simp
theorem Dig.done {n u : Nat} {out : List UInt8} (h : Dig n u out) (hu : u / 10 = 0) : Lib.decDigits n = dig u :: out := by
  unfold Dig at h; rw [h, dec_last hu]; rfl
end Go.Proofs.Ytjnlimahcodomaa.val
/- Numerals of the document, walked. -/
namespace Go.Proofs.Ytjnlimahcodomaa.val
set_option linter.unusedVariables false
open Go.RowKit
theorem dig_str (u : Nat) (out : List UInt8) : strOfNums [((48 + u % 10 : Nat) : Int)] ++ (⟨out.toArray⟩ : ByteArray) = ⟨(dig u :: out).toArray⟩ := by
  have e : strOfNums [((48 + u % 10 : Nat) : Int)] = ⟨#[dig u]⟩ := by
    unfold strOfNums dig
    rw [List.map_cons, List.map_nil, Int.toNat_natCast]
  rw [e]
  apply ByteArray.ext
  simp
theorem dig_len {n u : Nat} {out : List UInt8} (hn : n ≤ 9223372036854775808) (h : u * 10 ^ out.length ≤ n) (h0 : u = 0 → out = []) : out.length ≤ 18 := by
  by_cases hu : u = 0
  · rw [h0 hu]; decide
  · have h1 : 10 ^ out.length ≤ n := Nat.le_trans (Nat.le_mul_of_pos_left _ (by omega)) h
    have h2 : (10 : Nat) ^ out.length < 10 ^ 19 := by have : (10 : Nat) ^ 19 = 10000000000000000000 := by decide
                                                      omega
    have := (Nat.pow_lt_pow_iff_right (by decide : 1 < 10)).1 h2
    omega
/-- ahead of a round -/
structure DL (n u : Nat) (out : List UInt8) (S : ByteArray) : Prop where
  dig : Dig n u out
  bd : u * 10 ^ out.length ≤ n
  nil : u = 0 → out = []
  str : S = ⟨out.toArray⟩
theorem DL.size {n u : Nat} {out : List UInt8} {S : ByteArray} (h : DL n u out S) (hn : n ≤ 9223372036854775808) : S.size ≤ 18 := by
  have := dig_len hn h.bd h.nil
  rw [h.str]; exact this
theorem DL.done {n u : Nat} {out : List UInt8} {S : ByteArray} (h : DL n u out S) (hu : u / 10 = 0) : strOfNums [((48 + u % 10 : Nat) : Int)] ++ S = ⟨(Lib.decDigits n).toArray⟩ := by
  rw [h.dig.done hu, h.str]; exact dig_str u out
end Go.Proofs.Ytjnlimahcodomaa.val
/- Which values may be, by the document's text; how they are shown, by both. -/
namespace Go.Proofs.Ytjnlimahcodomaa.val
set_option linter.unusedVariables false
open Go.RowKit
attribute [local go_sem high] run_eqlV run_neqV
/-- may a value be? -/
def gB (k n : Int) (s : ByteArray) : Bool := if k = 0 then n == 0 && s.toList.isEmpty else if k = 1 then (n == 0 || n == 1) && s.toList.isEmpty else if k = 2 then s.toList.isEmpty else if k = 3 then n == 0 && decide ((s.size : Int) ≤ 64) else false
theorem rgood_0 (n : Int) (s : ByteArray) (W : World) : Calls Try.prog 35 #[ag3 0 n s] W fun e w' => e = .returned (.bool (n == 0 && s.toList.isEmpty)) ∧ Below W.heap.size W w' := by
  by_cases h : n = 0
  · subst h
    go_enter Try.func35, Try.ntmps35
    go_wp2
    go_ret
    exact ⟨rfl, below_alloc1 _ _⟩
  · have q : (n == 0) = false := by simpa using h
    rw [q]
    go_enter Try.func35, Try.ntmps35
    go_wp2
    go_ret
    exact ⟨rfl, below_alloc1 _ _⟩
theorem rgood_1 (n : Int) (s : ByteArray) (W : World) : Calls Try.prog 35 #[ag3 1 n s] W fun e w' => e = .returned (.bool ((n == 0 || n == 1) && s.toList.isEmpty)) ∧ Below W.heap.size W w' := by
  by_cases h : n = 0
  · subst h
    go_enter Try.func35, Try.ntmps35
    go_wp2
    go_ret
    exact ⟨rfl, below_alloc1 _ _⟩
  · have q : (n == 0) = false := by simpa using h
    rw [q]
    by_cases h1 : n = 1
    · subst h1
      clear h
      go_enter Try.func35, Try.ntmps35
      go_wp2
      go_ret
      exact ⟨rfl, below_alloc1 _ _⟩
    · have q1 : (n == 1) = false := by simpa using h1
      rw [q1]
      clear h h1
      go_enter Try.func35, Try.ntmps35
      go_wp2
      go_ret
      exact ⟨rfl, below_alloc1 _ _⟩
theorem rgood_2 (n : Int) (s : ByteArray) (W : World) : Calls Try.prog 35 #[ag3 2 n s] W fun e w' => e = .returned (.bool s.toList.isEmpty) ∧ Below W.heap.size W w' := by
  go_enter Try.func35, Try.ntmps35
  go_wp2
  go_ret
  exact ⟨rfl, below_alloc1 _ _⟩
theorem rgood_3 (n : Int) (s : ByteArray) (W : World) : Calls Try.prog 35 #[ag3 3 n s] W fun e w' => e = .returned (.bool (n == 0 && decide ((s.size : Int) ≤ 64))) ∧ Below W.heap.size W w' := by
  by_cases h : n = 0
  · subst h
    go_enter Try.func35, Try.ntmps35
    go_wp2
    go_ret
    exact ⟨rfl, below_alloc1 _ _⟩
  · have q : (n == 0) = false := by simpa using h
    rw [q]
    clear h
    go_enter Try.func35, Try.ntmps35
    go_wp2
    go_ret
    exact ⟨rfl, below_alloc1 _ _⟩
theorem rgood_4 (k n : Int) (s : ByteArray) (h : k ≠ 0 ∧ k ≠ 1 ∧ k ≠ 2 ∧ k ≠ 3) (W : World) : Calls Try.prog 35 #[ag3 k n s] W fun e w' => e = .returned (.bool false) ∧ Below W.heap.size W w' := by
  have k0 : (k == 0) = false := by simpa using h.1
  have k1 : (k == 1) = false := by simpa using h.2.1
  have k2 : (k == 2) = false := by simpa using h.2.2.1
  have k3 : (k == 3) = false := by simpa using h.2.2.2
  clear h
  go_enter Try.func35, Try.ntmps35
  go_wp2
  go_ret
  exact ⟨rfl, below_alloc1 _ _⟩
theorem rgood_any (k n : Int) (s : ByteArray) (W : World) : Calls Try.prog 35 #[ag3 k n s] W fun e w' => e = .returned (.bool (gB k n s)) ∧ Below W.heap.size W w' := by
  unfold gB
  by_cases h0 : k = 0
  · subst h0
    rw [if_pos rfl]; exact rgood_0 n s W
  · rw [if_neg h0]
    by_cases h1 : k = 1
    · subst h1
      rw [if_pos rfl]; exact rgood_1 n s W
    · rw [if_neg h1]
      by_cases h2 : k = 2
      · subst h2
        rw [if_pos rfl]; exact rgood_2 n s W
      · rw [if_neg h2]
        by_cases h3 : k = 3
        · subst h3
          rw [if_pos rfl]; exact rgood_3 n s W
        · rw [if_neg h3]; exact rgood_4 k n s ⟨h0, h1, h2, h3⟩ W
/-- the other sign -/
def negV (v : V) : V × Int := if v.k = 0 then (null, 0) else if v.k ≠ 2 then (null, 5) else if v.n = -9223372036854775808 then (null, 8) else (ofN (-v.n), 0)
set_option maxHeartbeats 1000000 in
theorem neg_any (k n : Int) (s : ByteArray) (hn : -9223372036854775808 ≤ n ∧ n ≤ 9223372036854775807) (W : World) : Calls Try.prog 33 #[ag3 k n s] W fun e w' => e = .returned (.tuple #[vv (negV ⟨k, n, s⟩).1, .int .i64 (negV ⟨k, n, s⟩).2]) ∧ Below W.heap.size W w' := by
  by_cases h0 : k = 0
  · subst h0
    have E : negV ⟨0, n, s⟩ = (null, 0) := by unfold negV; rw [if_pos rfl]
    rw [E]
    clear E
    go_enter Try.func33, Try.ntmps33
    go_wp2
    all_goals refine bodyPost_ret (v := .tuple #[vv null, .int .i64 0]) ?_ (by rfl) (And.intro (by rfl) ?_)
    any_goals (repeat' (first | assumption | exact Below.refl _ _ | apply Below.setCell | apply Below.alloc | apply below_drewN))
    any_goals (first | omega | (simp; omega) | (simp; done))
    all_goals (simp only [results, Try.results33]; go_simp)
    all_goals (first | done | exact ⟨rfl, rfl, rfl⟩ | rfl)
  · have k0 : (k == 0) = false := by simpa using h0
    by_cases h1 : k = 2
    · subst h1
      by_cases h2 : n = -9223372036854775808
      · subst h2
        have E : negV ⟨2, -9223372036854775808, s⟩ = (null, 8) := rfl
        rw [E]
        clear E
        go_enter Try.func33, Try.ntmps33
        go_wp2
        all_goals refine bodyPost_ret (v := .tuple #[vv null, .int .i64 8]) ?_ (by rfl) (And.intro (by rfl) ?_)
        any_goals (repeat' (first | assumption | exact Below.refl _ _ | apply Below.setCell | apply Below.alloc | apply below_drewN))
        any_goals (first | omega | (simp; omega) | (simp; done))
        all_goals (simp only [results, Try.results33]; go_simp)
        all_goals (first | done | exact ⟨rfl, rfl, rfl⟩ | rfl)
      · have E : negV ⟨2, n, s⟩ = (ofN (-n), 0) := by unfold negV; rw [if_neg h0, if_neg (by simp), if_neg h2]
        rw [E]
        have q : (n == -9223372036854775808) = false := by simpa using h2
        have b1 : -9223372036854775808 ≤ -n := by omega
        have b2 : -n ≤ 9223372036854775807 := by omega
        clear E h2 h0 k0 hn
        go_enter Try.func33, Try.ntmps33
        go_wp2_with (first | (go_at_call 19; ((with_reducible refine (ofInt_any _ _).mono ?_); rintro e w1 ⟨rfl, hb1⟩; have hB1 : Below W.heap.size W w1 := after (by (repeat' (first | assumption | exact Below.refl _ _ | apply Below.setCell | apply Below.alloc)); all_goals (first | omega | (simp; omega) | (simp; done))) hb1; obtain ⟨hc1, hf1⟩ := bcell hb1; have hz1 := hb1.size; (try simp at hz1); (try simp only [World.size_alloc] at hc1 hf1); have hy0 : W.heap.size < w1.heap.size := (by omega); have hy1 : W.heap.size + 1 < w1.heap.size := (by omega))))
        all_goals refine bodyPost_ret (v := .tuple #[vv (ofN (-n)), .int .i64 0]) ?_ (by rfl) (And.intro (by rfl) ?_)
        any_goals (repeat' (first | assumption | exact Below.refl _ _ | apply Below.setCell | apply Below.alloc | apply below_drewN))
        any_goals (first | omega | (simp; omega) | (simp; done))
        all_goals (simp only [results, Try.results33]; go_simp)
        all_goals (first | done | exact ⟨rfl, rfl, rfl⟩ | rfl)
    · have q : (k == 2) = false := by simpa using h1
      have q2 : (k != 2) = true := by simpa using h1
      have E : negV ⟨k, n, s⟩ = (null, 5) := by unfold negV; rw [if_neg h0, if_pos h1]
      rw [E]
      clear E h0 h1
      go_enter Try.func33, Try.ntmps33
      go_wp2
      all_goals refine bodyPost_ret (v := .tuple #[vv null, .int .i64 5]) ?_ (by rfl) (And.intro (by rfl) ?_)
      any_goals (repeat' (first | assumption | exact Below.refl _ _ | apply Below.setCell | apply Below.alloc | apply below_drewN))
      any_goals (first | omega | (simp; omega) | (simp; done))
      all_goals (simp only [results, Try.results33]; go_simp)
      all_goals (first | done | exact ⟨rfl, rfl, rfl⟩ | rfl)
end Go.Proofs.Ytjnlimahcodomaa.val
