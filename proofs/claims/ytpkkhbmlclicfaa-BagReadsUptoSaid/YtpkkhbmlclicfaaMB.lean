/- The program's operators on values, walked: arithmetic, comparisons, all of Do. -/
import Derived.Test.YtpkkhbmlclicfaaValueW
import Derived.Test.YtpkkhbmlclicfaaAg
import Derived.Deep.RegionHeld3
import Derived.Deep.CutBlock
import Derived.Deep.DeepCutAuto
import Derived.Lib.Strings
import Derived.Test.YtpkkhbmlclicfaaShelf
import Derived.Lib.SplitLaws
import Derived.Lib.Replace
import Derived.Test.YtpkkhbmlclicfaaMA
import Derived.Lib.ReplaceLaws
import Derived.Lib.CountLaws
import Derived.Lib.ItoaNum
import Derived.LoopTactic
import Derived.Outline
namespace Go.Proofs.Ytpkkhbmlclicfaa.val
set_option linter.unusedVariables false
open Go.RowKit
attribute [local go_sem high] run_eqlV run_neqV
attribute [local go_sem] ag.upon_value ag.upon_skip ag.upon_enter
attribute [local go_sem] Oper.semAt_some
/-! ### cmp's -/
theorem isNaN_int (x : Int) (W : World) : Calls Try.prog 62 #[.int .i64 x] W fun e w' => e = .returned (.bool false) ∧ W = w' := by
  go_enter Try.func62, Try.ntmps62
  go_wp2
  all_goals go_ret
  all_goals exact ⟨ret_bool (by simp), rfl⟩
theorem isNaN_int64 (x : Int) (W : World) : Calls Try.prog 63 #[.int .i64 x] W fun e w' => e = .returned (.bool false) ∧ W = w' := by
  go_enter Try.func63, Try.ntmps63
  go_wp2
  all_goals go_ret
  all_goals exact ⟨ret_bool (by simp), rfl⟩
theorem isNaN_str (x : ByteArray) (W : World) : Calls Try.prog 64 #[.string x] W fun e w' => e = .returned (.bool false) ∧ W = w' := by
  go_enter Try.func64, Try.ntmps64
  go_wp2
  all_goals go_ret
  all_goals exact ⟨ret_bool (by simp), rfl⟩
/-- the order of two numbers -/
def cmpI (a b : Int) : Int := if a < b then -1 else if b < a then 1 else 0
def cmpS (a b : ByteArray) : Int := if Op.bytesLess a.toList b.toList = true then -1 else if Op.bytesLess b.toList a.toList = true then 1 else 0
def cmpV (a b : V) : Int := if cmpI a.k b.k ≠ 0 then cmpI a.k b.k else if cmpI a.n b.n ≠ 0 then cmpI a.n b.n else cmpS a.s b.s
theorem cmp_int (a b : Int) (W : World) : Calls Try.prog 53 #[.int .i64 a, .int .i64 b] W fun e w' => e = .returned (.int .i64 (cmpI a b)) ∧ W = w' := by
  go_enter Try.func53, Try.ntmps53
  go_wp2_with (go_at_call 62; (refine (isNaN_int _ _).mono ?_; rintro e w1 ⟨rfl, rfl⟩))
  all_goals go_ret
  all_goals exact ⟨ret_i64 (by unfold cmpI; (repeat' split) <;> omega), rfl⟩
theorem cmp_int64 (a b : Int) (W : World) : Calls Try.prog 54 #[.int .i64 a, .int .i64 b] W fun e w' => e = .returned (.int .i64 (cmpI a b)) ∧ W = w' := by
  go_enter Try.func54, Try.ntmps54
  go_wp2_with (go_at_call 63; (refine (isNaN_int64 _ _).mono ?_; rintro e w1 ⟨rfl, rfl⟩))
  all_goals go_ret
  all_goals exact ⟨ret_i64 (by unfold cmpI; (repeat' split) <;> omega), rfl⟩
theorem cmp_str (a b : ByteArray) (W : World) : Calls Try.prog 55 #[.string a, .string b] W fun e w' => e = .returned (.int .i64 (cmpS a b)) ∧ W = w' := by
  go_enter Try.func55, Try.ntmps55
  go_wp2_with (go_at_call 64; (refine (isNaN_str _ _).mono ?_; rintro e w1 ⟨rfl, rfl⟩))
  all_goals go_ret
  · exact ⟨ret_i64 (by unfold cmpS; rw [if_pos ‹_›]), rfl⟩
  · have h1 : Op.bytesLess a.toList b.toList = false := by assumption
    have h2 : (!a.toList == b.toList) = true := by assumption
    have h3 : Op.bytesLess b.toList a.toList = true := by
      cases h : Op.bytesLess b.toList a.toList
      · have := bl_total _ _ h1 h
        rw [this] at h2; simp at h2
      · rfl
    exact ⟨ret_i64 (by unfold cmpS; rw [if_neg (by rw [h1]; decide), if_pos h3]), rfl⟩
  · have h2 : (!a.toList == b.toList) = false := by assumption
    have h3 : a.toList = b.toList := by simpa using h2
    exact ⟨ret_i64 (by unfold cmpS; rw [h3, bl_irrefl]; rfl), rfl⟩
/-- cmp.Or of three: the first that is not 0. -/
def or3 (x y z : Int) : Int := if x ≠ 0 then x else if y ≠ 0 then y else z
theorem or_three (x y z : Int) (W : World) (g : Nat) (hx : W.cell? ⟨g, 0, none⟩ = some (.int .i64 x)) (hy : W.cell? ⟨g, 1, none⟩ = some (.int .i64 y)) (hz : W.cell? ⟨g, 2, none⟩ = some (.int .i64 z)) (cap : Nat) :
    Calls Try.prog 52 #[.slice (some ⟨g, 0, none⟩) 3 cap] W fun e w' => e = .returned (.int .i64 (or3 x y z)) ∧ W = w' := by
  by_cases h1 : x = 0
  · subst h1
    by_cases h2 : y = 0
    · subst h2
      by_cases h3 : z = 0
      · subst h3
        go_enter Try.func52, Try.ntmps52
        go_wp2
        refine wp_loop_rounds 4 ?_
        rw [rounds_succ]
        go_wp2
        rw [rounds_succ]
        go_wp2
        rw [rounds_succ]
        go_wp2
        rw [rounds_succ]
        go_wp2
        go_ret
        exact ⟨rfl, rfl⟩
      · have z0 : (z == 0) = false := by simpa using h3
        have z1 : (z != 0) = true := by simpa using h3
        clear h3
        go_enter Try.func52, Try.ntmps52
        go_wp2
        refine wp_loop_rounds 4 ?_
        rw [rounds_succ]
        go_wp2
        rw [rounds_succ]
        go_wp2
        rw [rounds_succ]
        go_wp2
        go_ret
        exact ⟨ret_i64 (by unfold or3; simp), rfl⟩
    · have y0 : (y == 0) = false := by simpa using h2
      have y1 : (y != 0) = true := by simpa using h2
      have E := Lib.hid h2
      clear h2
      go_enter Try.func52, Try.ntmps52
      go_wp2
      refine wp_loop_rounds 4 ?_
      rw [rounds_succ]
      go_wp2
      rw [rounds_succ]
      go_wp2
      go_ret
      exact ⟨ret_i64 (by unfold or3; simp [E.out]), rfl⟩
  · have x0 : (x == 0) = false := by simpa using h1
    have x1 : (x != 0) = true := by simpa using h1
    have E := Lib.hid h1
    clear h1
    go_enter Try.func52, Try.ntmps52
    go_wp2
    refine wp_loop_rounds 4 ?_
    rw [rounds_succ]
    go_wp2
    go_ret
    exact ⟨ret_i64 (by unfold or3; simp [E.out]), rfl⟩
/-- three numbers in a new row -/
def three (x y z : Int) (v : Value) (w : World) : Prop := ∃ g cap, v = .slice (some ⟨g, 0, none⟩) 3 cap ∧ w.cell? ⟨g, 0, none⟩ = some (.int .i64 x) ∧ w.cell? ⟨g, 1, none⟩ = some (.int .i64 y) ∧ w.cell? ⟨g, 2, none⟩ = some (.int .i64 z)
end Go.Proofs.Ytpkkhbmlclicfaa.val
/- All of the program's Do; Not. -/
namespace Go.Proofs.Ytpkkhbmlclicfaa.val
set_option linter.unusedVariables false
open Go.RowKit
attribute [local go_sem high] run_eqlV run_neqV
theorem cmpI_iff (x y : Int) : (cmpI x y < 0 ↔ x < y) ∧ (cmpI x y = 0 ↔ x = y) ∧ (0 < cmpI x y ↔ y < x) := by
  unfold cmpI; (repeat' split) <;> omega
theorem cmpS_iff (a b : ByteArray) : (cmpS a b < 0 ↔ Op.bytesLess a.toList b.toList = true) ∧ (cmpS a b = 0 ↔ a.toList = b.toList) ∧ (0 < cmpS a b ↔ Op.bytesLess b.toList a.toList = true) := by
  unfold cmpS
  cases h1 : Op.bytesLess a.toList b.toList
  · cases h2 : Op.bytesLess b.toList a.toList
    · have := bl_total _ _ h1 h2
      simp [this]
    · have : a.toList ≠ b.toList := fun e => by rw [e, bl_irrefl] at h2; cases h2
      simp [this]
  · have h2 := bl_asymm _ _ h1
    have : a.toList ≠ b.toList := fun e => by rw [e, bl_irrefl] at h1; cases h1
    simp [this, h2]
theorem good_text {v : V} (h : Good v) (hk : v.k = 3) : v.n = 0 ∧ v.s.size ≤ 64 := by unfold Good at h; omega
theorem good_other {v : V} (h : Good v) (hk : v.k ≠ 3) : v.s = ByteArray.empty := by
  rcases h with h | h | h | h
  · exact h.2.2
  · exact h.2.2
  · exact h.2.1
  · exact absurd h.1 hk
theorem cmpV_iff (a b : V) (ha : Good a) (hb : Good b) : (cmpV a b < 0 ↔ less a b = true) ∧ (cmpV a b = 0 ↔ veq a b = true) ∧ (0 < cmpV a b ↔ less b a = true) := by
  have hk := cmpI_iff a.k b.k
  have hn := cmpI_iff a.n b.n
  have hs := cmpS_iff a.s b.s
  by_cases ek : a.k = b.k
  · have k0 : cmpI a.k b.k = 0 := hk.2.1.2 ek
    by_cases e3 : a.k = 3
    · have na := (good_text ha e3).1
      have nb := (good_text hb (ek ▸ e3)).1
      have n0 : cmpI a.n b.n = 0 := hn.2.1.2 (by omega)
      have e : cmpV a b = cmpS a.s b.s := by unfold cmpV; rw [k0, n0]; simp
      rw [e]
      refine ⟨?_, ?_, ?_⟩
      · rw [hs.1]; unfold less; rw [if_pos ek, if_pos e3]
      · rw [hs.2.1]; simp [veq6, ek, na, nb]
      · rw [hs.2.2]; unfold less; rw [if_pos ek.symm, if_pos (by omega)]
    · have sa := good_other ha e3
      have sb := good_other hb (ek ▸ e3)
      have s0 : cmpS a.s b.s = 0 := hs.2.1.2 (by rw [sa, sb])
      have e : cmpV a b = cmpI a.n b.n := by unfold cmpV; rw [k0, s0]; simp; intro h; exact h.symm
      rw [e]
      refine ⟨?_, ?_, ?_⟩
      · rw [hn.1]; unfold less; rw [if_pos ek, if_neg e3]; simp
      · rw [hn.2.1]; simp [veq6, ek, sa, sb]
      · rw [hn.2.2]; unfold less; rw [if_pos ek.symm, if_neg (by omega)]; simp
  · have k0 : cmpI a.k b.k ≠ 0 := fun h => ek (hk.2.1.1 h)
    have e : cmpV a b = cmpI a.k b.k := by unfold cmpV; rw [if_pos k0]
    rw [e]
    refine ⟨?_, ?_, ?_⟩
    · rw [hk.1]; unfold less; rw [if_neg ek]; simp
    · rw [hk.2.1]; simp [veq6, ek]
    · rw [hk.2.2]; unfold less; rw [if_neg (fun h => ek h.symm)]; simp
end Go.Proofs.Ytpkkhbmlclicfaa.val
/- The rest of the program's Do; Not, True; a text shown. -/
namespace Go.Proofs.Ytpkkhbmlclicfaa.val
set_option linter.unusedVariables false
open Go.RowKit
attribute [local go_sem high] run_eqlV run_neqV
attribute [local go_sem] ag.upon_value ag.upon_skip ag.upon_enter
attribute [local go_sem] Oper.semAt_some
/-- what a box holds, later -/
theorem box_later (W : World) (k n : Int) (s : ByteArray) (W' : World) (hS : Below (W.alloc (.cells #[.int .i64 k, .int .i64 n, .string s] TV)).heap.size (W.alloc (.cells #[.int .i64 k, .int .i64 n, .string s] TV)) W') :
    W'.cell? ⟨W.heap.size, 0, none⟩ = some (.int .i64 k) ∧ W'.cell? ⟨W.heap.size, 1, none⟩ = some (.int .i64 n) ∧ W'.cell? ⟨W.heap.size, 2, none⟩ = some (.string s) :=
  ⟨cell_later hS (cells_new W [.int .i64 k, .int .i64 n, .string s] TV 0), cell_later hS (cells_new W [.int .i64 k, .int .i64 n, .string s] TV 1), cell_later hS (cells_new W [.int .i64 k, .int .i64 n, .string s] TV 2)⟩
end Go.Proofs.Ytpkkhbmlclicfaa.val
/- A text shown; the first test of the laws on values. -/
namespace Go.Proofs.Ytpkkhbmlclicfaa.val
set_option linter.unusedVariables false
open Go.RowKit
attribute [local go_sem high] run_eqlV run_neqV
attribute [local go_sem] ag.upon_value ag.upon_skip ag.upon_enter
attribute [local go_sem] Oper.semAt_some
abbrev q1 : ByteArray := ⟨#[39]⟩
abbrev q2 : ByteArray := ⟨#[39, 39]⟩
/-- what stands between the quotes -/
def inner (s : ByteArray) : ByteArray := ⟨(Lib.replaceAll s.data.toList [39] [39, 39]).toArray⟩
def quote (s : ByteArray) : ByteArray := q1 ++ inner s ++ q1
theorem good_null : Good null := .inl ⟨rfl, rfl, rfl⟩
theorem good_ofB (b : Bool) : Good (ofB b) := by cases b; exact .inr (.inl ⟨rfl, .inl rfl, rfl⟩); exact .inr (.inl ⟨rfl, .inr rfl, rfl⟩)
abbrev its : ByteArray := ⟨#[105, 116, 39, 115]⟩
end Go.Proofs.Ytpkkhbmlclicfaa.val
/- Numerals and quotes as plain mathematics. No program. -/
namespace Go.Proofs.Ytpkkhbmlclicfaa.val
set_option linter.unusedVariables false
/-- a text's bytes, each quote twice -/
def dup (l : List UInt8) : List UInt8 := l.flatMap fun c => if c = 39 then [39, 39] else [c]
theorem dup_snoc (l : List UInt8) (c : UInt8) : dup (l ++ [c]) = dup l ++ if c = 39 then [39, 39] else [c] := by simp [dup]
theorem dup_cons (l : List UInt8) (c : UInt8) : dup (c :: l) = (if c = 39 then [39, 39] else [c]) ++ dup l := by simp [dup]
theorem replaceK_dup : ∀ l : List UInt8, Lib.replaceK [39] [39, 39] (Lib.count l [39]) l = dup l
  | [] => by
    have h : Lib.index [] [39] = -1 := by decide
    rw [Lib.count_miss h]; rfl
  | c :: l => by
    have ih := replaceK_dup l
    rw [dup_cons]
    by_cases hc : c = 39
    · subst hc
      have h : Lib.index (39 :: l) [39] = ((0 : Nat) : Int) := by unfold Lib.index; simp
      rw [Lib.count_hit (by decide) h]
      have e : (39 :: l).drop (0 + [(39 : UInt8)].length) = l := rfl
      rw [e, Nat.add_comm, Lib.replaceK_hit _ _ _ _ 0 h, e, ih, if_pos rfl]
      rfl
    · rw [if_neg hc]
      have hp : ([39] : List UInt8).isPrefixOf (c :: l) = false := by simp [List.isPrefixOf]; exact fun e => hc e.symm
      by_cases hm : Lib.index l [39] = -1
      · have h : Lib.index (c :: l) [39] = -1 := by unfold Lib.index; rw [hp, hm]; simp
        rw [Lib.count_miss h]
        rw [Lib.count_miss hm] at ih
        have e : Lib.replaceK [39] [39, 39] 0 l = l := rfl
        rw [e] at ih
        rw [← ih]; rfl
      · have hg := Lib.index_ge l [39]
        obtain ⟨i, hi⟩ : ∃ i : Nat, Lib.index l [39] = i := ⟨(Lib.index l [39]).toNat, by omega⟩
        have h : Lib.index (c :: l) [39] = ((i + 1 : Nat) : Int) := by
          unfold Lib.index; rw [hp, hi]
          have : ((i : Int) == -1) = false := by simp
          simp [this]
        rw [Lib.count_hit (by decide) h]
        rw [Lib.count_hit (by decide) hi] at ih
        have e1 : (c :: l).drop (i + 1 + [(39 : UInt8)].length) = l.drop (i + [(39 : UInt8)].length) := rfl
        rw [e1, Nat.add_comm, Lib.replaceK_hit _ _ _ _ (i + 1) h, e1]
        rw [Nat.add_comm, Lib.replaceK_hit _ _ _ _ i hi] at ih
        rw [← ih]; rfl
theorem replaceAll_dup (l : List UInt8) : Lib.replaceAll l [39] [39, 39] = dup l := by
  unfold Lib.replaceAll Lib.replace Lib.replaceNum
  rw [if_neg (by decide), if_pos (.inl (by decide))]
  exact replaceK_dup l
/-- one digit -/
def dig (u : Nat) : UInt8 := UInt8.ofNat (48 + u % 10)
theorem dec_last {u : Nat} (h : u / 10 = 0) : Lib.decDigits u = [dig u] := by
  have hu : u < 10 := by omega
  rw [Lib.decDigits, dif_pos hu]; unfold dig; rw [Nat.mod_eq_of_lt hu]
theorem dec_more {u : Nat} (h : u / 10 ≠ 0) : Lib.decDigits u = Lib.decDigits (u / 10) ++ [dig u] := by
  rw [Lib.decDigits, dif_neg (by omega)]; rfl
/-- ahead of a round: what is left, what is written -/
def Dig (n u : Nat) (out : List UInt8) : Prop := Lib.decDigits n = Lib.decDigits u ++ out
theorem Dig.step {n u : Nat} {out : List UInt8} (h : Dig n u out) (hu : u / 10 ≠ 0) : Dig n (u / 10) (dig u :: out) := by
  unfold Dig at *; rw [h, dec_more hu]; simp
theorem Dig.done {n u : Nat} {out : List UInt8} (h : Dig n u out) (hu : u / 10 = 0) : Lib.decDigits n = dig u :: out := by
  unfold Dig at h; rw [h, dec_last hu]; rfl
end Go.Proofs.Ytpkkhbmlclicfaa.val
/- Numerals of the document, walked. -/
namespace Go.Proofs.Ytpkkhbmlclicfaa.val
set_option linter.unusedVariables false
open Go.RowKit
theorem dig_str (u : Nat) (out : List UInt8) : strOfNums [((48 + u % 10 : Nat) : Int)] ++ (⟨out.toArray⟩ : ByteArray) = ⟨(dig u :: out).toArray⟩ := by
  have e : strOfNums [((48 + u % 10 : Nat) : Int)] = ⟨#[dig u]⟩ := by
    unfold strOfNums dig
    rw [List.map_cons, List.map_nil, Int.toNat_natCast]
  rw [e]
  apply ByteArray.ext
  simp
theorem dig_len {n u : Nat} {out : List UInt8} (hn : n ≤ 9223372036854775808) (h : u * 10 ^ out.length ≤ n) (h0 : u = 0 → out = []) : out.length ≤ 18 := by
  by_cases hu : u = 0
  · rw [h0 hu]; decide
  · have h1 : 10 ^ out.length ≤ n := Nat.le_trans (Nat.le_mul_of_pos_left _ (by omega)) h
    have h2 : (10 : Nat) ^ out.length < 10 ^ 19 := by have : (10 : Nat) ^ 19 = 10000000000000000000 := by decide
                                                      omega
    have := (Nat.pow_lt_pow_iff_right (by decide : 1 < 10)).1 h2
    omega
theorem dig_next {n u : Nat} {out : List UInt8} (c : UInt8) (h : u * 10 ^ out.length ≤ n) : (u / 10) * 10 ^ (c :: out).length ≤ n := by
  rw [List.length_cons, Nat.pow_succ, Nat.mul_comm (10 ^ _) 10, ← Nat.mul_assoc]
  exact Nat.le_trans (Nat.mul_le_mul_right _ (Nat.div_mul_le_self u 10)) h
/-- ahead of a round -/
structure DL (n u : Nat) (out : List UInt8) (S : ByteArray) : Prop where
  dig : Dig n u out
  bd : u * 10 ^ out.length ≤ n
  nil : u = 0 → out = []
  str : S = ⟨out.toArray⟩
theorem DL.size {n u : Nat} {out : List UInt8} {S : ByteArray} (h : DL n u out S) (hn : n ≤ 9223372036854775808) : S.size ≤ 18 := by
  have := dig_len hn h.bd h.nil
  rw [h.str]; exact this
theorem DL.next {n u : Nat} {out : List UInt8} {S : ByteArray} (h : DL n u out S) (hu : u / 10 ≠ 0) : DL n (u / 10) (val.dig u :: out) (strOfNums [((48 + u % 10 : Nat) : Int)] ++ S) :=
  ⟨h.dig.step hu, dig_next _ h.bd, fun e => absurd e hu, by rw [h.str]; exact dig_str u out⟩
theorem DL.done {n u : Nat} {out : List UInt8} {S : ByteArray} (h : DL n u out S) (hu : u / 10 = 0) : strOfNums [((48 + u % 10 : Nat) : Int)] ++ S = ⟨(Lib.decDigits n).toArray⟩ := by
  rw [h.dig.done hu, h.str]; exact dig_str u out
end Go.Proofs.Ytpkkhbmlclicfaa.val
/- Which values may be, by both texts; other signs. -/
namespace Go.Proofs.Ytpkkhbmlclicfaa.val
set_option linter.unusedVariables false
open Go.RowKit
attribute [local go_sem high] run_eqlV run_neqV
abbrev nob : ByteArray := ⟨#[]⟩
/-- three cells kept, and what was there -/
theorem keep3 {w W W' : World} {p q r : Addr} {a b c : Value} (hh : W.cell? p = some a ∧ W.cell? q = some b ∧ W.cell? r = some c ∧ Below w.heap.size w W) (hb : Below W.heap.size W W') : W'.cell? p = some a ∧ W'.cell? q = some b ∧ W'.cell? r = some c ∧ Below w.heap.size w W' :=
  ⟨cell_later hb hh.1, cell_later hb hh.2.1, cell_later hb hh.2.2.1, hh.2.2.2.trans (hb.mono hh.2.2.2.size)⟩
theorem ofF_lit (W : World) : Calls Try.prog 60 #[.bool false] W fun e w' => e = .returned (ag3 1 0 nob) ∧ Below W.heap.size W w' := ofBool_any false W
theorem ofT_lit (W : World) : Calls Try.prog 60 #[.bool true] W fun e w' => e = .returned (ag3 1 1 nob) ∧ Below W.heap.size W w' := ofBool_any true W
theorem ofI_lit (n : Int) (W : World) : Calls Try.prog 22 #[.int .i64 n] W fun e w' => e = .returned (ag3 2 n nob) ∧ Below W.heap.size W w' := ofInt_any n W
theorem ofS_lit (s : ByteArray) (W : World) : Calls Try.prog 61 #[.string s] W fun e w' => e = .returned (ag3 3 0 s) ∧ Below W.heap.size W w' := ofText_any s W
set_option maxHeartbeats 1000000 in
theorem good_0 (n : Int) (s : ByteArray) (W : World) : Calls Try.prog 51 #[ag3 0 n s] W fun e w' => e = .returned (.bool (veq6 0 n s 0 0 nob)) ∧ Below W.heap.size W w' := by
  go_enter Try.func51, Try.ntmps51
  go_wp2
  go_ret
  exact ⟨rfl, below_alloc1 _ _⟩
set_option maxRecDepth 100000 in
set_option maxHeartbeats 2000000 in
theorem good_1 (n : Int) (s : ByteArray) (W : World) : Calls Try.prog 51 #[ag3 1 n s] W fun e w' => e = .returned (.bool (veq6 1 n s 1 0 nob || veq6 1 n s 1 1 nob)) ∧ Below W.heap.size W w' := by
  obtain ⟨p, hp⟩ : ∃ p, veq6 1 n s 1 0 nob = p := ⟨_, rfl⟩
  obtain ⟨q, hq⟩ : ∃ q, veq6 1 n s 1 1 nob = q := ⟨_, rfl⟩
  rw [hp, hq]
  have HP := Lib.hid hp
  have HQ := Lib.hid hq
  clear hp hq
  cases p
  · skip
    go_enter Try.func51, Try.ntmps51
    go_wp2
    have HC := Lib.hid (fun (W' : World) (hS : Below (W.alloc (.cells #[.int .i64 1, .int .i64 n, .string s] TV)).heap.size (W.alloc (.cells #[.int .i64 1, .int .i64 n, .string s] TV)) W') => box_later W 1 n s W' hS)
    have HBB := Lib.hid (below_alloc1 W (.cells #[.int .i64 1, .int .i64 n, .string s] TV))
    generalize W.alloc (.cells #[.int .i64 1, .int .i64 n, .string s] TV) = X at *
    refine ag.region_ag (fun W1 => Below X.heap.size X W1) (fun _ _ _ _ => True)
      [.val (ag3 1 n s), .sat (fun v _ => v = ag3 1 0 nob) (fun _ w w' => Below w.heap.size w w'), .val (.bool false), .val (.bool false), .val (ag3 1 n s), .sat (fun v _ => v = ag3 1 1 nob) (fun _ w w' => Below w.heap.size w w'), .val (.bool q), .val (.bool q), .val (.bool q)]
      (by kernel_rfl) (by kernel_rfl) rfl (⟨rfl, rfl, rfl, Nat.le_refl _, fun _ _ => rfl⟩) ?hst1f ?hk1f ?hwalk1f
    case hst1f =>
      simp only [ag.Stab, ag.Row2, ag.Ok2, and_true]
      repeat' apply And.intro
      all_goals first
        | exact fun h => absurd rfl h
        | exact fun _ _ f v W W' hS hv _ ht => hv
        | trivial
    case hk1f =>
      simp only [ag.Keeps, and_true]
      exact ⟨fun f W1 W2 hS _ ht => hS.trans (ht.mono hS.size), fun f W1 W2 hS _ ht => hS.trans (ht.mono hS.size)⟩
    case hwalk1f =>
      refine ag.walk_val (by rfl) (fun W1 hS hE => ?_) ?_
      rotate_left; simp only [Act.put, List.setIfInBounds_toArray, List.set_cons_zero, List.set_cons_succ]; rotate_left
      · have c3 := HC.out W1 hS
        obtain ⟨c0, c1, c2⟩ := c3
        clear hS hE
        unfold ag.does
        go_simp
        try exact ⟨rfl, rfl⟩
      refine ag.walk_sat (by rfl) (fun W1 hS hE => ?_) (fun y1 => ?_)
      rotate_left; simp only [Act.put, List.setIfInBounds_toArray, List.set_cons_zero, List.set_cons_succ]; rotate_left
      · clear hS hE
        unfold ag.does
        go_simp
        refine (ofF_lit _).mono ?_
        rintro e W2 ⟨rfl, hb⟩
        exact ⟨_, rfl, rfl, hb, ag.News.none (fun _ _ => trivial) _ _⟩
      refine ag.walk_val (by rfl) (fun W1 hS hE => ?_) ?_
      rotate_left; simp only [Act.put, List.setIfInBounds_toArray, List.set_cons_zero, List.set_cons_succ]; rotate_left
      · have hy1 : y1 = ag3 1 0 nob := hE.get (by kernel_rfl)
        subst hy1
        clear hS hE
        unfold ag.does
        go_simp
        exact ⟨congrArg Value.bool HP.out, rfl⟩
      refine ag.walk_val (by rfl) (fun W1 hS hE => ?_) ?_
      rotate_left; simp only [Act.put, List.setIfInBounds_toArray, List.set_cons_zero, List.set_cons_succ]; rotate_left
      · clear hS hE
        unfold ag.does
        go_simp
        try exact ⟨rfl, rfl⟩
      refine ag.walk_val (by rfl) (fun W1 hS hE => ?_) ?_
      rotate_left; simp only [Act.put, List.setIfInBounds_toArray, List.set_cons_zero, List.set_cons_succ]; rotate_left
      · have c3 := HC.out W1 hS
        obtain ⟨c0, c1, c2⟩ := c3
        clear hS hE
        unfold ag.does
        go_simp
        try exact ⟨rfl, rfl⟩
      refine ag.walk_sat (by rfl) (fun W1 hS hE => ?_) (fun y2 => ?_)
      rotate_left; simp only [Act.put, List.setIfInBounds_toArray, List.set_cons_zero, List.set_cons_succ]; rotate_left
      · clear hS hE
        unfold ag.does
        go_simp
        refine (ofT_lit _).mono ?_
        rintro e W2 ⟨rfl, hb⟩
        exact ⟨_, rfl, rfl, hb, ag.News.none (fun _ _ => trivial) _ _⟩
      refine ag.walk_val (by rfl) (fun W1 hS hE => ?_) ?_
      rotate_left; simp only [Act.put, List.setIfInBounds_toArray, List.set_cons_zero, List.set_cons_succ]; rotate_left
      · have hy2 : y2 = ag3 1 1 nob := hE.get (by kernel_rfl)
        subst hy2
        clear hS hE
        unfold ag.does
        go_simp
        exact ⟨congrArg Value.bool HQ.out, rfl⟩
      refine ag.walk_val (by rfl) (fun W1 hS hE => ?_) ?_
      rotate_left; simp only [Act.put, List.setIfInBounds_toArray, List.set_cons_zero, List.set_cons_succ]; rotate_left
      · clear hS hE
        unfold ag.does
        go_simp
        try exact ⟨rfl, rfl⟩
      refine ag.walk_val (by rfl) (fun W1 hS hE => ?_) ?_
      rotate_left; simp only [Act.put, List.setIfInBounds_toArray, List.set_cons_zero, List.set_cons_succ]; rotate_left
      · clear hS hE
        unfold ag.does
        go_simp
        try exact ⟨rfl, rfl⟩
      refine ag.walk_nil (fun w7 hS hF' hP => ?_)
      clear hF' hP
      have HS := Lib.hid hS
      clear hS
      go_wp2
      go_ret
      exact ⟨rfl, HBB.out.trans (HS.out.mono HBB.out.size)⟩
  · skip
    go_enter Try.func51, Try.ntmps51
    go_wp2
    have HC := Lib.hid (fun (W' : World) (hS : Below (W.alloc (.cells #[.int .i64 1, .int .i64 n, .string s] TV)).heap.size (W.alloc (.cells #[.int .i64 1, .int .i64 n, .string s] TV)) W') => box_later W 1 n s W' hS)
    have HBB := Lib.hid (below_alloc1 W (.cells #[.int .i64 1, .int .i64 n, .string s] TV))
    generalize W.alloc (.cells #[.int .i64 1, .int .i64 n, .string s] TV) = X at *
    refine ag.region_ag (fun W1 => Below X.heap.size X W1) (fun _ _ _ _ => True)
      [.val (ag3 1 n s), .sat (fun v _ => v = ag3 1 0 nob) (fun _ w w' => Below w.heap.size w w'), .val (.bool true), .val (.bool true), .val undef, .val undef, .val undef, .val (.bool true), .val (.bool true)]
      (by kernel_rfl) (by kernel_rfl) rfl (⟨rfl, rfl, rfl, Nat.le_refl _, fun _ _ => rfl⟩) ?hst1t ?hk1t ?hwalk1t
    case hst1t =>
      simp only [ag.Stab, ag.Row2, ag.Ok2, and_true]
      repeat' apply And.intro
      all_goals first
        | exact fun h => absurd rfl h
        | exact fun _ _ f v W W' hS hv _ ht => hv
        | trivial
    case hk1t =>
      simp only [ag.Keeps, and_true]
      exact fun f W1 W2 hS _ ht => hS.trans (ht.mono hS.size)
    case hwalk1t =>
      refine ag.walk_val (by rfl) (fun W1 hS hE => ?_) ?_
      rotate_left; simp only [Act.put, List.setIfInBounds_toArray, List.set_cons_zero, List.set_cons_succ]; rotate_left
      · have c3 := HC.out W1 hS
        obtain ⟨c0, c1, c2⟩ := c3
        clear hS hE
        unfold ag.does
        go_simp
        try exact ⟨rfl, rfl⟩
      refine ag.walk_sat (by rfl) (fun W1 hS hE => ?_) (fun y1 => ?_)
      rotate_left; simp only [Act.put, List.setIfInBounds_toArray, List.set_cons_zero, List.set_cons_succ]; rotate_left
      · clear hS hE
        unfold ag.does
        go_simp
        refine (ofF_lit _).mono ?_
        rintro e W2 ⟨rfl, hb⟩
        exact ⟨_, rfl, rfl, hb, ag.News.none (fun _ _ => trivial) _ _⟩
      refine ag.walk_val (by rfl) (fun W1 hS hE => ?_) ?_
      rotate_left; simp only [Act.put, List.setIfInBounds_toArray, List.set_cons_zero, List.set_cons_succ]; rotate_left
      · have hy1 : y1 = ag3 1 0 nob := hE.get (by kernel_rfl)
        subst hy1
        clear hS hE
        unfold ag.does
        go_simp
        exact ⟨congrArg Value.bool HP.out, rfl⟩
      refine ag.walk_val (by rfl) (fun W1 hS hE => ?_) ?_
      rotate_left; simp only [Act.put, List.setIfInBounds_toArray, List.set_cons_zero, List.set_cons_succ]; rotate_left
      · clear hS hE
        unfold ag.does
        go_simp
        try exact ⟨rfl, rfl⟩
      refine ag.walk_skip (by rfl) ?_
      simp only [Act.put, List.setIfInBounds_toArray, List.set_cons_zero, List.set_cons_succ]
      refine ag.walk_skip (by rfl) ?_
      simp only [Act.put, List.setIfInBounds_toArray, List.set_cons_zero, List.set_cons_succ]
      refine ag.walk_skip (by rfl) ?_
      simp only [Act.put, List.setIfInBounds_toArray, List.set_cons_zero, List.set_cons_succ]
      refine ag.walk_val (by rfl) (fun W1 hS hE => ?_) ?_
      rotate_left; simp only [Act.put, List.setIfInBounds_toArray, List.set_cons_zero, List.set_cons_succ]; rotate_left
      · clear hS hE
        unfold ag.does
        go_simp
        try exact ⟨rfl, rfl⟩
      refine ag.walk_val (by rfl) (fun W1 hS hE => ?_) ?_
      rotate_left; simp only [Act.put, List.setIfInBounds_toArray, List.set_cons_zero, List.set_cons_succ]; rotate_left
      · clear hS hE
        unfold ag.does
        go_simp
        try exact ⟨rfl, rfl⟩
      refine ag.walk_nil (fun w7 hS hF' hP => ?_)
      clear hF' hP
      have HS := Lib.hid hS
      clear hS
      go_wp2
      go_ret
      exact ⟨rfl, HBB.out.trans (HS.out.mono HBB.out.size)⟩
set_option maxHeartbeats 1000000 in
theorem good_2 (n : Int) (s : ByteArray) (W : World) : Calls Try.prog 51 #[ag3 2 n s] W fun e w' => e = .returned (.bool (veq6 2 n s 2 n nob)) ∧ Below W.heap.size W w' := by
  obtain ⟨p, hp⟩ : ∃ p, veq6 2 n s 2 n nob = p := ⟨_, rfl⟩
  rw [hp]
  go_enter Try.func51, Try.ntmps51
  go_wp2
  go_region_held3 (fun X => X.cell? ⟨W.heap.size, 0, none⟩ = some (.int .i64 2) ∧ X.cell? ⟨W.heap.size, 1, none⟩ = some (.int .i64 n) ∧ X.cell? ⟨W.heap.size, 2, none⟩ = some (.string s) ∧ Below W.heap.size W X)
    (first | exact ⟨cells_new W [_, _, _] _ 0, cells_new W [_, _, _] _ 1, cells_new W [_, _, _] _ 2, ((Below.refl _ _).alloc (Nat.le_refl _) _).drew⟩ | exact keep3 (by assumption) hb')
    (first | (go_at_call 22; refine (ofI_lit _ _).mono ?_; rintro e w' ⟨rfl, hb'⟩))
  go_wp2
  go_ret
  exact ⟨rfl, And.right (And.right (And.right (by assumption)))⟩
set_option maxRecDepth 100000 in
set_option maxHeartbeats 2000000 in
theorem good_3 (n : Int) (s : ByteArray) (W : World) : Calls Try.prog 51 #[ag3 3 n s] W fun e w' => e = .returned (.bool (veq6 3 n s 3 0 s && decide ((s.size : Int) ≤ 64))) ∧ Below W.heap.size W w' := by
  obtain ⟨p, hp⟩ : ∃ p, veq6 3 n s 3 0 s = p := ⟨_, rfl⟩
  rw [hp]
  have HP := Lib.hid hp
  clear hp
  cases p
  · skip
    go_enter Try.func51, Try.ntmps51
    go_wp2
    have HC := Lib.hid (fun (W' : World) (hS : Below (W.alloc (.cells #[.int .i64 3, .int .i64 n, .string s] TV)).heap.size (W.alloc (.cells #[.int .i64 3, .int .i64 n, .string s] TV)) W') => box_later W 3 n s W' hS)
    have HBB := Lib.hid (below_alloc1 W (.cells #[.int .i64 3, .int .i64 n, .string s] TV))
    generalize W.alloc (.cells #[.int .i64 3, .int .i64 n, .string s] TV) = X at *
    refine ag.region_ag (fun W1 => Below X.heap.size X W1) (fun _ _ _ _ => True)
      [.val (ag3 3 n s), .val (.pointer (some ⟨W.heap.size, 2, none⟩)), .val (.string s), .sat (fun v _ => v = ag3 3 0 s) (fun _ w w' => Below w.heap.size w w'), .val (.bool false), .val (.bool false), .val undef, .val undef, .val undef, .val undef, .val (.bool false), .val (.bool false)]
      (by kernel_rfl) (by kernel_rfl) rfl (⟨rfl, rfl, rfl, Nat.le_refl _, fun _ _ => rfl⟩) ?hst3f ?hk3f ?hwalk3f
    case hst3f =>
      simp only [ag.Stab, ag.Row2, ag.Ok2, and_true]
      repeat' apply And.intro
      all_goals first
        | exact fun h => absurd rfl h
        | exact fun _ _ f v W W' hS hv _ ht => hv
        | trivial
    case hk3f =>
      simp only [ag.Keeps, and_true]
      exact fun f W1 W2 hS _ ht => hS.trans (ht.mono hS.size)
    case hwalk3f =>
      refine ag.walk_val (by rfl) (fun W1 hS hE => ?_) ?_
      rotate_left; simp only [Act.put, List.setIfInBounds_toArray, List.set_cons_zero, List.set_cons_succ]; rotate_left
      · have c3 := HC.out W1 hS
        obtain ⟨c0, c1, c2⟩ := c3
        clear hS hE
        unfold ag.does
        go_simp
        try exact ⟨rfl, rfl⟩
      refine ag.walk_val (by rfl) (fun W1 hS hE => ?_) ?_
      rotate_left; simp only [Act.put, List.setIfInBounds_toArray, List.set_cons_zero, List.set_cons_succ]; rotate_left
      · clear hS hE
        unfold ag.does
        go_simp
        try exact ⟨rfl, rfl⟩
      refine ag.walk_val (by rfl) (fun W1 hS hE => ?_) ?_
      rotate_left; simp only [Act.put, List.setIfInBounds_toArray, List.set_cons_zero, List.set_cons_succ]; rotate_left
      · have c3 := HC.out W1 hS
        obtain ⟨c0, c1, c2⟩ := c3
        clear hS hE
        unfold ag.does
        go_simp
        try exact ⟨rfl, rfl⟩
      refine ag.walk_sat (by rfl) (fun W1 hS hE => ?_) (fun y1 => ?_)
      rotate_left; simp only [Act.put, List.setIfInBounds_toArray, List.set_cons_zero, List.set_cons_succ]; rotate_left
      · clear hS hE
        unfold ag.does
        go_simp
        refine (ofS_lit _ _).mono ?_
        rintro e W2 ⟨rfl, hb⟩
        exact ⟨_, rfl, rfl, hb, ag.News.none (fun _ _ => trivial) _ _⟩
      refine ag.walk_val (by rfl) (fun W1 hS hE => ?_) ?_
      rotate_left; simp only [Act.put, List.setIfInBounds_toArray, List.set_cons_zero, List.set_cons_succ]; rotate_left
      · have hy1 : y1 = ag3 3 0 s := hE.get (by kernel_rfl)
        subst hy1
        clear hS hE
        unfold ag.does
        go_simp
        exact ⟨congrArg Value.bool HP.out, rfl⟩
      refine ag.walk_val (by rfl) (fun W1 hS hE => ?_) ?_
      rotate_left; simp only [Act.put, List.setIfInBounds_toArray, List.set_cons_zero, List.set_cons_succ]; rotate_left
      · clear hS hE
        unfold ag.does
        go_simp
        try exact ⟨rfl, rfl⟩
      refine ag.walk_skip (by rfl) ?_
      simp only [Act.put, List.setIfInBounds_toArray, List.set_cons_zero, List.set_cons_succ]
      refine ag.walk_skip (by rfl) ?_
      simp only [Act.put, List.setIfInBounds_toArray, List.set_cons_zero, List.set_cons_succ]
      refine ag.walk_skip (by rfl) ?_
      simp only [Act.put, List.setIfInBounds_toArray, List.set_cons_zero, List.set_cons_succ]
      refine ag.walk_skip (by rfl) ?_
      simp only [Act.put, List.setIfInBounds_toArray, List.set_cons_zero, List.set_cons_succ]
      refine ag.walk_val (by rfl) (fun W1 hS hE => ?_) ?_
      rotate_left; simp only [Act.put, List.setIfInBounds_toArray, List.set_cons_zero, List.set_cons_succ]; rotate_left
      · clear hS hE
        unfold ag.does
        go_simp
        try exact ⟨rfl, rfl⟩
      refine ag.walk_val (by rfl) (fun W1 hS hE => ?_) ?_
      rotate_left; simp only [Act.put, List.setIfInBounds_toArray, List.set_cons_zero, List.set_cons_succ]; rotate_left
      · clear hS hE
        unfold ag.does
        go_simp
        try exact ⟨rfl, rfl⟩
      refine ag.walk_nil (fun w7 hS hF' hP => ?_)
      clear hF' hP
      have HS := Lib.hid hS
      clear hS
      go_wp2
      go_ret
      exact ⟨rfl, HBB.out.trans (HS.out.mono HBB.out.size)⟩
  · skip
    go_enter Try.func51, Try.ntmps51
    go_wp2
    have HC := Lib.hid (fun (W' : World) (hS : Below (W.alloc (.cells #[.int .i64 3, .int .i64 n, .string s] TV)).heap.size (W.alloc (.cells #[.int .i64 3, .int .i64 n, .string s] TV)) W') => box_later W 3 n s W' hS)
    have HBB := Lib.hid (below_alloc1 W (.cells #[.int .i64 3, .int .i64 n, .string s] TV))
    generalize W.alloc (.cells #[.int .i64 3, .int .i64 n, .string s] TV) = X at *
    refine ag.region_ag (fun W1 => Below X.heap.size X W1) (fun _ _ _ _ => True)
      [.val (ag3 3 n s), .val (.pointer (some ⟨W.heap.size, 2, none⟩)), .val (.string s), .sat (fun v _ => v = ag3 3 0 s) (fun _ w w' => Below w.heap.size w w'), .val (.bool true), .val (.bool true), .val (.pointer (some ⟨W.heap.size, 2, none⟩)), .val (.string s), .val (.int .i64 (s.size : Int)), .val (.bool (decide ((s.size : Int) ≤ 64))), .val (.bool (decide ((s.size : Int) ≤ 64))), .val (.bool (decide ((s.size : Int) ≤ 64)))]
      (by kernel_rfl) (by kernel_rfl) rfl (⟨rfl, rfl, rfl, Nat.le_refl _, fun _ _ => rfl⟩) ?hst3t ?hk3t ?hwalk3t
    case hst3t =>
      simp only [ag.Stab, ag.Row2, ag.Ok2, and_true]
      repeat' apply And.intro
      all_goals first
        | exact fun h => absurd rfl h
        | exact fun _ _ f v W W' hS hv _ ht => hv
        | trivial
    case hk3t =>
      simp only [ag.Keeps, and_true]
      exact fun f W1 W2 hS _ ht => hS.trans (ht.mono hS.size)
    case hwalk3t =>
      refine ag.walk_val (by rfl) (fun W1 hS hE => ?_) ?_
      rotate_left; simp only [Act.put, List.setIfInBounds_toArray, List.set_cons_zero, List.set_cons_succ]; rotate_left
      · have c3 := HC.out W1 hS
        obtain ⟨c0, c1, c2⟩ := c3
        clear hS hE
        unfold ag.does
        go_simp
        try exact ⟨rfl, rfl⟩
      refine ag.walk_val (by rfl) (fun W1 hS hE => ?_) ?_
      rotate_left; simp only [Act.put, List.setIfInBounds_toArray, List.set_cons_zero, List.set_cons_succ]; rotate_left
      · clear hS hE
        unfold ag.does
        go_simp
        try exact ⟨rfl, rfl⟩
      refine ag.walk_val (by rfl) (fun W1 hS hE => ?_) ?_
      rotate_left; simp only [Act.put, List.setIfInBounds_toArray, List.set_cons_zero, List.set_cons_succ]; rotate_left
      · have c3 := HC.out W1 hS
        obtain ⟨c0, c1, c2⟩ := c3
        clear hS hE
        unfold ag.does
        go_simp
        try exact ⟨rfl, rfl⟩
      refine ag.walk_sat (by rfl) (fun W1 hS hE => ?_) (fun y1 => ?_)
      rotate_left; simp only [Act.put, List.setIfInBounds_toArray, List.set_cons_zero, List.set_cons_succ]; rotate_left
      · clear hS hE
        unfold ag.does
        go_simp
        refine (ofS_lit _ _).mono ?_
        rintro e W2 ⟨rfl, hb⟩
        exact ⟨_, rfl, rfl, hb, ag.News.none (fun _ _ => trivial) _ _⟩
      refine ag.walk_val (by rfl) (fun W1 hS hE => ?_) ?_
      rotate_left; simp only [Act.put, List.setIfInBounds_toArray, List.set_cons_zero, List.set_cons_succ]; rotate_left
      · have hy1 : y1 = ag3 3 0 s := hE.get (by kernel_rfl)
        subst hy1
        clear hS hE
        unfold ag.does
        go_simp
        exact ⟨congrArg Value.bool HP.out, rfl⟩
      refine ag.walk_val (by rfl) (fun W1 hS hE => ?_) ?_
      rotate_left; simp only [Act.put, List.setIfInBounds_toArray, List.set_cons_zero, List.set_cons_succ]; rotate_left
      · clear hS hE
        unfold ag.does
        go_simp
        try exact ⟨rfl, rfl⟩
      refine ag.walk_val (by rfl) (fun W1 hS hE => ?_) ?_
      rotate_left; simp only [Act.put, List.setIfInBounds_toArray, List.set_cons_zero, List.set_cons_succ]; rotate_left
      · clear hS hE
        unfold ag.does
        go_simp
        try exact ⟨rfl, rfl⟩
      refine ag.walk_val (by rfl) (fun W1 hS hE => ?_) ?_
      rotate_left; simp only [Act.put, List.setIfInBounds_toArray, List.set_cons_zero, List.set_cons_succ]; rotate_left
      · have c3 := HC.out W1 hS
        obtain ⟨c0, c1, c2⟩ := c3
        clear hS hE
        unfold ag.does
        go_simp
        try exact ⟨rfl, rfl⟩
      refine ag.walk_val (by rfl) (fun W1 hS hE => ?_) ?_
      rotate_left; simp only [Act.put, List.setIfInBounds_toArray, List.set_cons_zero, List.set_cons_succ]; rotate_left
      · clear hS hE
        unfold ag.does
        go_simp
        try exact ⟨rfl, rfl⟩
      refine ag.walk_val (by rfl) (fun W1 hS hE => ?_) ?_
      rotate_left; simp only [Act.put, List.setIfInBounds_toArray, List.set_cons_zero, List.set_cons_succ]; rotate_left
      · clear hS hE
        unfold ag.does
        go_simp
        try exact ⟨rfl, rfl⟩
      refine ag.walk_val (by rfl) (fun W1 hS hE => ?_) ?_
      rotate_left; simp only [Act.put, List.setIfInBounds_toArray, List.set_cons_zero, List.set_cons_succ]; rotate_left
      · clear hS hE
        unfold ag.does
        go_simp
        try exact ⟨rfl, rfl⟩
      refine ag.walk_val (by rfl) (fun W1 hS hE => ?_) ?_
      rotate_left; simp only [Act.put, List.setIfInBounds_toArray, List.set_cons_zero, List.set_cons_succ]; rotate_left
      · clear hS hE
        unfold ag.does
        go_simp
        try exact ⟨rfl, rfl⟩
      refine ag.walk_nil (fun w7 hS hF' hP => ?_)
      clear hF' hP
      have HS := Lib.hid hS
      clear hS
      go_wp2
      go_ret
      exact ⟨rfl, HBB.out.trans (HS.out.mono HBB.out.size)⟩
set_option maxHeartbeats 1000000 in
theorem good_4 (k n : Int) (s : ByteArray) (h : k ≠ 0 ∧ k ≠ 1 ∧ k ≠ 2 ∧ k ≠ 3) (W : World) : Calls Try.prog 51 #[ag3 k n s] W fun e w' => e = .returned (.bool false) ∧ Below W.heap.size W w' := by
  have k0 : (k == 0) = false := by simpa using h.1
  have k1 : (k == 1) = false := by simpa using h.2.1
  have k2 : (k == 2) = false := by simpa using h.2.2.1
  have k3 : (k == 3) = false := by simpa using h.2.2.2
  clear h
  go_enter Try.func51, Try.ntmps51
  go_wp2
  go_ret
  exact ⟨rfl, below_alloc1 _ _⟩
end Go.Proofs.Ytpkkhbmlclicfaa.val
/- Which values may be, by the document's text; how they are shown, by both. -/
namespace Go.Proofs.Ytpkkhbmlclicfaa.val
set_option linter.unusedVariables false
open Go.RowKit
attribute [local go_sem high] run_eqlV run_neqV
theorem emp_eq (s : ByteArray) : (s.toList == nob.toList) = s.toList.isEmpty := by
  have h : nob.toList = [] := by rw [ByteArray.toList_eq]
  rw [h]; cases s.toList <;> rfl
theorem veq_nob (k n : Int) (s : ByteArray) (n' : Int) : veq6 k n s k n' nob = (n == n' && s.toList.isEmpty) := by
  unfold veq6; rw [emp_eq]; simp
/-- may a value be? -/
def gB (k n : Int) (s : ByteArray) : Bool := if k = 0 then n == 0 && s.toList.isEmpty else if k = 1 then (n == 0 || n == 1) && s.toList.isEmpty else if k = 2 then s.toList.isEmpty else if k = 3 then n == 0 && decide ((s.size : Int) ≤ 64) else false
theorem good_any (k n : Int) (s : ByteArray) (W : World) : Calls Try.prog 51 #[ag3 k n s] W fun e w' => e = .returned (.bool (gB k n s)) ∧ Below W.heap.size W w' := by
  unfold gB
  by_cases h0 : k = 0
  · subst h0
    rw [if_pos rfl, ← veq_nob 0 n s 0]; exact good_0 n s W
  · rw [if_neg h0]
    by_cases h1 : k = 1
    · subst h1
      have e : ((n == 0 || n == 1) && s.toList.isEmpty) = (veq6 1 n s 1 0 nob || veq6 1 n s 1 1 nob) := by
        rw [veq_nob, veq_nob]; cases (n == 0) <;> cases (n == 1) <;> cases s.toList.isEmpty <;> rfl
      rw [if_pos rfl, e]; exact good_1 n s W
    · rw [if_neg h1]
      by_cases h2 : k = 2
      · subst h2
        have e : s.toList.isEmpty = veq6 2 n s 2 n nob := by rw [veq_nob]; simp
        rw [if_pos rfl, e]; exact good_2 n s W
      · rw [if_neg h2]
        by_cases h3 : k = 3
        · subst h3
          have e : (n == 0) = veq6 3 n s 3 0 s := by unfold veq6; simp
          rw [if_pos rfl, e]; exact good_3 n s W
        · rw [if_neg h3]; exact good_4 k n s ⟨h0, h1, h2, h3⟩ W
end Go.Proofs.Ytpkkhbmlclicfaa.val
