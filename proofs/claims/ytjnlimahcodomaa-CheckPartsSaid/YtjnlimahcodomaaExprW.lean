/- The law ExprTells: its first steps; walked. -/
import Derived.Test.YtjnlimahcodomaaExprU
import Derived.Test.YtjnlimahcodomaaExprK
import Derived.Deep.RegionWith
import Derived.BigRegion
namespace Go.Proofs.Ytjnlimahcodomaa.ex
set_option linter.unusedVariables false
open Go.RowKit
open val (V null veq6 gB ag3)
attribute [local go_sem] Oper.semAt_some
attribute [local go_sem high] run_min_keep
theorem pCells_take (l : List Pt) (m : Nat) : pCells (l.take m) = (pCells l).take (m * 7) := by
  induction l generalizing m with
  | nil => simp [pCells]
  | cons a l ih =>
    cases m with
    | zero => simp [pCells]
    | succ m =>
      rw [List.take_succ_cons, pCells_cons, pCells_cons, ih, show (m + 1) * 7 = m * 7 + 7 by omega]
      rfl
/-- the first parts of an argument, built -/
theorem built_args (v : Value) (ps : List Pt) (hps : ∀ x ∈ ps, PB x) (k : Nat) (hk : k ≤ 40) (a : Option Addr) (c c' : Nat) (w : World) (hr : Row w (.slice a ps.length c) 7 ps.length (pCells ps)) (n : Nat) (hn : n = min ps.length k) :
    ∀ W, Below w.heap.size w W → Calls Try.prog 6 #[.slice a n c', .int .i64 0, .int .i64 0] W (BuiltPost (ps.take k) 25 0 W) := by
  intro W hb
  have hlen : (ps.take k).length = n := by rw [List.length_take, hn, Nat.min_comm]
  have h := built_any (ps.take k) (fun x hx => hps x (List.mem_of_mem_take hx)) n hlen (by omega) a c' 25 (Nat.le_refl _) 0 W (by omega) (by
    have h1 := sub_take (hr.later hb) n (by omega) c'
    rw [← pCells_take] at h1
    have h2 : ps.take n = ps.take k := by rw [hn]; by_cases h : ps.length ≤ k
                                          · rw [Nat.min_eq_left h, List.take_of_length_le (Nat.le_refl _), List.take_of_length_le h]
                                          · rw [Nat.min_eq_right (by omega)]
    rw [h2] at h1; exact h1)
  exact h
theorem val_fit (x : Pt) (h5 : -9223372036854775808 ≤ x.x ∧ x.x ≤ 9223372036854775807) : x.val.s.size ≤ 1000 ∧ (-9223372036854775808 ≤ x.val.n ∧ x.val.n ≤ 9223372036854775807) := by
  have c3 := cut_size x.nm 70
  have he : (ByteArray.empty).size = 0 := by decide
  obtain ⟨u1, u2⟩ := h5
  unfold Pt.val null
  split
  · split
    · dsimp only; omega
    · split
      · dsimp only; omega
      · split
        · dsimp only; omega
        · dsimp only; omega
  · dsimp only; omega
theorem builtF_fit (ps : List Pt) (hps : ∀ x ∈ ps, PB x) (f : Nat) : ∀ a, Fit (builtF ps f a).1 := by
  have hleaf : Fit leaf1 := by
    intro x hx
    rw [leaf1_parts] at hx
    simp only [List.mem_singleton] at hx
    subst hx
    exact ⟨by decide, by decide, by decide, by decide, by decide⟩
  induction f with
  | zero => intro a; exact hleaf
  | succ f ih =>
    intro a
    cases h : ps[a]? with
    | none => rw [builtF_none (by rw [List.getElem?_eq_none_iff] at h; exact h)]; exact hleaf
    | some x =>
      rw [builtF_some h]
      have hb := hps x (List.mem_of_getElem? h)
      intro y hy
      have hk : ∀ n, ∀ z ∈ (kids (builtF ps f) n (a + 1)).1, Fit z := by
        intro n
        induction n with
        | zero => intro z hz; simp [kids] at hz
        | succ n ihn =>
          intro z hz
          simp only [kids, List.mem_append, List.mem_singleton] at hz
          rcases hz with hz | rfl
          · exact ihn z hz
          · exact ih _
      rw [ex_parts, partsL_flat] at hy
      rcases List.mem_cons.1 hy with rfl | hy
      · obtain ⟨h1, h2, h3, h4, h5, h6, h7⟩ := hb
        have c1 := cut_size x.nm 20
        have c2 := cut_size x.tb 20
        have c3 := cut_size x.nm 70
        have he : (ByteArray.empty).size = 0 := by decide
        unfold Pt.ex
        have hv := val_fit x h5
        refine ⟨?_, ?_, hv.1, hv.2⟩
        · show (if x.named then cut x.nm 20 else ByteArray.empty).size ≤ 1000
          split <;> omega
        · show (if x.named then cut x.tb 20 else ByteArray.empty).size ≤ 1000
          split <;> omega
      · obtain ⟨z, hz, hyz⟩ := List.mem_flatMap.1 hy
        exact hk _ z hz y hyz
/-- the same, with letters for what is built -/
theorem built_letters (v : Value) (ps : List Pt) (hps : ∀ x ∈ ps, PB x) (k : Nat) (hk : k ≤ 40) (a : Option Addr) (c c' : Nat) (w : World) (hr : Row w (.slice a ps.length c) 7 ps.length (pCells ps)) (n : Nat) (hn : n = min ps.length k) :
    ∃ (em : Ex) (nx : Int), em.slim ∧ Fit em ∧ em.parts.length ≤ 121 ∧ ∀ W, Below w.heap.size w W → Calls Try.prog 6 #[.slice a n c', .int .i64 0, .int .i64 0] W (fun en w' => ∃ r : Er, en = .returned (.tuple #[r.val, .int .i64 nx]) ∧ ExAt TQ (fun b => W.heap.size ≤ b) 26 w' em r ∧ Below W.heap.size W w') := by
  have hp : ∀ x ∈ ps.take k, PB x := fun x hx => hps x (List.mem_of_mem_take hx)
  have h := built_args v ps hps k hk a c c' w hr n hn
  have h1 := builtF_slim (ps.take k) hp 25 0
  have h2 := builtF_fit (ps.take k) hp 25 0
  have h3 := (builtF_few (ps.take k) hp (by rw [List.length_take]; omega) 25 0 (Nat.zero_le _)).2
  unfold BuiltPost at h
  generalize builtF (ps.take k) 25 0 = pr at h h1 h2 h3
  exact ⟨pr.1, _, h1, h2, h3, h⟩
end Go.Proofs.Ytjnlimahcodomaa.ex
