/- What the law ArenaPlays wants beside its walk: the next place in use; the range over no arena. -/
import Derived.Test.YtbaepjjanjhliaaArenaApartW
import Derived.Test.YtbaepjjanjhliaaRef01S
namespace Go.Proofs.Ytbaepjjanjhliaa
set_option linter.unusedVariables false
open Go.RowKit Go.Shelf
attribute [local go_sem] Oper.semAt_some

/-- the next place in use lies ahead, and those between are not in use -/
theorem arI.usF_first : ∀ (l : List (Bool × Int)) (kk i : Nat) (x : Int) (rest : List (Nat × Int)), arI.usF kk l = (i, x) :: rest →
    ∃ d, i = kk + d ∧ d < l.length ∧ (∀ q, q < d → l[q]?.map (·.1) = some false) ∧ l[d]? = some (true, x) ∧ arI.usF (kk + d + 1) (l.drop (d + 1)) = rest
  | [], kk, i, x, rest, h => by simp [arI.usF] at h
  | (true, y) :: l, kk, i, x, rest, h => by
    simp only [arI.usF, if_true, List.cons_append, List.nil_append, List.cons.injEq, Prod.mk.injEq] at h
    obtain ⟨⟨rfl, rfl⟩, h⟩ := h
    exact ⟨0, rfl, by simp, fun q hq => by omega, rfl, h⟩
  | (false, y) :: l, kk, i, x, rest, h => by
    simp only [arI.usF, List.nil_append] at h
    obtain ⟨d, e1, e2, e3, e4, e5⟩ := arI.usF_first l (kk + 1) i x rest (by simpa using h)
    refine ⟨d + 1, by omega, by simp; omega, fun q hq => ?_, by simpa using e4, ?_⟩
    · cases q with
      | zero => rfl
      | succ q => simpa using e3 q (by omega)
    · rw [show kk + (d + 1) + 1 = kk + 1 + d + 1 by omega]; exact e5
theorem arI.usF_none : ∀ (l : List (Bool × Int)) (kk : Nat), arI.usF kk l = [] → ∀ q, q < l.length → l[q]?.map (·.1) = some false
  | [], kk, h, q, hq => by simp at hq
  | (true, y) :: l, kk, h, q, hq => by simp [arI.usF] at h
  | (false, y) :: l, kk, h, q, hq => by
    simp only [arI.usF] at h
    cases q with
    | zero => rfl
    | succ q => simpa using arI.usF_none l (kk + 1) (by simpa using h) q (by simpa using hq)

/-- the law's own counter, ahead of item k -/
def KC (wc : World) (bk : Nat) (s : Ar Int) (k : Nat) (W : World) : Prop :=
  ∃ kk : Nat, (W.cell? ⟨bk, 0, none⟩ = some (.int .i64 (kk : Int)) ∧ W.frozen? ⟨bk, 0, none⟩ = false) ∧ kk ≤ s.sl.length ∧ arI.usF kk (s.sl.drop kk) = (arI.usF 0 s.sl).drop k ∧ Below wc.heap.size wc W
theorem KC.own {wc : World} {bk B : Nat} {s : Ar Int} (hB : wc.heap.size ≤ B) : OwnFrom B (KC wc bk s) := by
  rintro k W W' row ⟨kk, ⟨h1, h2⟩, h3, h4, h5⟩ hg hr
  exact ⟨kk, ⟨cell_kept h1 hg (fun r e => (hr r e).2), (frozen_kept h1 hg (fun r e => (hr r e).2)).trans h2⟩, h3, h4, ownFrom_below (Nat.le_refl _) hB k W W' row h5 hg hr⟩
theorem KC.next {s : Ar Int} {k kk : Nat} (h : arI.usF kk (s.sl.drop kk) = (arI.usF 0 s.sl).drop k) (hk : k < (arI.usF 0 s.sl).length) :
    ∃ p x, kk ≤ p ∧ p < s.sl.length ∧ (∀ q, kk ≤ q → q < p → s.sl[q]?.map (·.1) = some false) ∧ s.sl[p]? = some (true, x) ∧ (arI.usF 0 s.sl)[k]? = some (p, x) ∧ arI.usF (p + 1) (s.sl.drop (p + 1)) = (arI.usF 0 s.sl).drop (k + 1) := by
  rw [List.drop_eq_getElem_cons hk] at h
  obtain ⟨i, x⟩ : Nat × Int := (arI.usF 0 s.sl)[k]
  have e : (arI.usF 0 s.sl)[k] = (((arI.usF 0 s.sl)[k]).1, ((arI.usF 0 s.sl)[k]).2) := rfl
  rw [e] at h
  obtain ⟨d, e1, e2, e3, e4, e5⟩ := arI.usF_first _ _ _ _ _ h
  rw [List.length_drop] at e2
  refine ⟨kk + d, _, by omega, by omega, fun q h1 h2 => ?_, by rw [List.getElem?_drop] at e4; exact e4, ?_, ?_⟩
  · have := e3 (q - kk) (by omega)
    rw [List.getElem?_drop, show kk + (q - kk) = q by omega] at this
    exact this
  · rw [List.getElem?_eq_getElem hk, e, e1]
  · rw [List.drop_drop, show kk + (d + 1) = kk + d + 1 by omega] at e5; exact e5
theorem KC.done {s : Ar Int} {kk : Nat} (h : arI.usF kk (s.sl.drop kk) = (arI.usF 0 s.sl).drop (arI.usF 0 s.sl).length) : ∀ q, kk ≤ q → q < s.sl.length → s.sl[q]?.map (·.1) = some false := by
  rw [List.drop_length] at h
  intro q h1 h2
  have := arI.usF_none _ _ h (q - kk) (by rw [List.length_drop]; omega)
  rw [List.getElem?_drop, show kk + (q - kk) = q by omega] at this
  exact this

theorem arI.all_nil (w : World) :
    Calls Try.prog 21 #[.pointer none] w fun e w' => e = .returned (.func (.func 48) #[] #[.pointer (some ⟨w.heap.size, 0, none⟩)]) ∧ w' = w.alloc (.cells #[.pointer none] 24) := by
  go_enter Try.func21, Try.ntmps21
  go_wp2
  go_ret
  exact ⟨rfl, rfl⟩
theorem arI.all1_nil (n : Nat) (l Bs : Nat) (Jx J : Nat → World → Prop) (W : World) (hBs : W.cell? ⟨Bs, 0, none⟩ = some (.pointer none)) (h0 : J 0 W) :
    CallsIn Fence.wide n Try.prog 48 #[.func (.yield l) #[] #[], .pointer (some ⟨Bs, 0, none⟩)] W fun e W' => (∃ v, e = .returned v) ∧ (J 0 W' ∨ ∃ k, k ≤ 0 ∧ Jx k W') := by
  refine callsIn_of_wp Try.func48 rfl trivial ?_ rfl
  simp only [Try.ntmps48, List.size_toArray, List.length_cons, List.length_nil, Nat.reduceAdd, Nat.reduceSub, Array.replicate_succ, Array.replicate_zero, List.push_toArray, List.append_toArray, List.nil_append, List.cons_append]
  gi_wp2
  exact bodyPost_ret (results_none rfl _ _ _) rfl ⟨⟨_, rfl⟩, .inl h0⟩
theorem arI.all_nil_idx (n : Nat) (Bs : Nat) (args : Nat → Array Value) (Kp : World → World → Prop) (w : World) (hBs : w.cell? ⟨Bs, 0, none⟩ = some (.pointer none)) :
    SeqIdx Fence.wide n Try.prog 48 #[.pointer (some ⟨Bs, 0, none⟩)] args Kp 0 w :=
  fun l J Jx W hW hJ hJx hY h0 => arI.all1_nil n l Bs Jx J W (cell_later hW hBs) h0

/-- what is left of a counter in memory; no 'match' in the open -/
def upCell (n b : Nat) (W : World) : Nat := match W.cell? ⟨b, 0, none⟩ with
  | some (.int _ j) => n - j.toNat
  | _ => 0
theorem upCell_of {n b : Nat} {W : World} {k : IntKind} {j : Int} (h : W.cell? ⟨b, 0, none⟩ = some (.int k j)) : upCell n b W = n - j.toNat := by unfold upCell; rw [h]

end Go.Proofs.Ytbaepjjanjhliaa
