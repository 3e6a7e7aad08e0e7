/- What the law BagTurns says of bags, plain. -/
import Derived.Test.YtpkkhbmlclicfaaBagV
namespace Go.Proofs.Ytpkkhbmlclicfaa.val
set_option linter.unusedVariables false
theorem once_cnt_perm {l m : List (List V)} (h : l.Perm m) (r : List V) : cnt (once l) r = cnt (once m) r := cnt_perm (h.map _) r
theorem cnt_two (a b : BL) (r : List V) : cnt [a, b].flatten r = cnt a r + cnt b r := by simp [cnt_append]
theorem total_two (a b : BL) : total [a, b].flatten = total a + total b := by simp [total_append]
theorem IsBag.strict {w : World} {v : Value} {o : BL} (h : IsBag w v o) : Strict o := by
  obtain ⟨_, _, _, _, _, _, h, _⟩ := h
  exact h
theorem IsBag.short {w : World} {v : Value} {o : BL} (h : IsBag w v o) : o.length ≤ total o := h.strict.len
/-- a bag without rows -/
theorem isBag_none (w : World) : IsBag w (.agg #[.slice none 0 0]) [] := ⟨none, 0, [], rfl, World.ownsRow_nil _ _ _ _, Smx.nil _, ⟨List.Pairwise.nil, fun x hx => (by cases hx)⟩, fun x hx => (by cases hx), fun x hx => (by cases hx)⟩
/-- two bags, as a call's arguments -/
theorem Bgs.two {w : World} {a b : Value} {o p : BL} (ha : IsBag w (.agg #[a]) o) (hb : IsBag w (.agg #[b]) p) : Bgs w [a, b] [o, p] := by
  refine ⟨rfl, fun j x y h1 h2 => ?_⟩
  match j with
  | 0 => simp at h1 h2; subst h1 h2; exact ha
  | 1 => simp at h1 h2; subst h1 h2; exact hb
  | j + 2 => simp at h1
end Go.Proofs.Ytpkkhbmlclicfaa.val
