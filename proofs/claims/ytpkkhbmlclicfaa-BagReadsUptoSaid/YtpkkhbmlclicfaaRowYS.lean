/- A copy of a row; rows sorted by the program: walked. -/
import Derived.OwnWalk
import Derived.Test.YtpkkhbmlclicfaaMG
import Derived.Test.YtpkkhbmlclicfaaRowI
namespace Go.Proofs.Ytpkkhbmlclicfaa.val
set_option linter.unusedVariables false
open Go.RowKit
set_option maxRecDepth 100000 in
set_option maxHeartbeats 2000000 in
theorem clone_some (p : Addr) (cap : Nat) (l : List V) (hl : l.length ≤ 1000000) (w : World) (hv : IsRow w (.slice (some p) l.length cap) l) :
    Calls Try.prog 25 #[.slice (some p) l.length cap] w fun e w' => ∃ v', e = .returned v' ∧ w'.ownsRow w.heap.size TV 3 v' l.length (vCells l) ∧ Below w.heap.size w w' := by
  obtain ⟨i0, hi, hz0, hz1, hz2⟩ := info_parts infoV
  have HV := Lib.hid hv
  clear hv
  have hnil := fun (w : World) => Lib.run_eql_slice_nil (P := Try.prog) w 49 57 (some p) l.length cap 0 0 Try.underlying49
  have hfl := Lib.hid (Flds.new w TV [])
  have h63 : 0 + l.length ≤ maxLen := by unfold maxLen; omega
  have h64 : (0 + l.length) * 32 ≤ 140737488355328 := by omega
  have HR1 := Lib.hid (HV.out.later (below_alloc1 w (.cells #[] TV)))
  have HOW := Lib.hid (owns_of_flds (m := 0) (size := 3) (base := w.heap.size) hfl.out rfl (Nat.le_refl _) (by decide))
  go_enter Try.func25, Try.ntmps25
  go_wp2_with (at_builtin; refine wpList_append_row _ rfl _ _ 49 rfl w.heap.size TV i0 (ag3 0 0 ⟨#[]⟩) 3 32 Try.underlying49 hi hz0 hz1 hz2 rfl (by decide) (.slice (some ⟨w.heap.size, 0, none⟩) 0 0) 0 [] rfl HOW.out _ l.length (vCells l) rfl HR1.out (vCells_one l) h63 h64 (by simp) ?_; intro a' cap' w' hap)
  have HAP := Lib.hid hap
  clear hap
  go_wp2_with fail
  go_ret
  obtain ⟨-, hown, -, hgr, -, -, -, -, -⟩ := HAP.out
  rw [Nat.zero_add, List.nil_append] at hown
  exact ⟨_, rfl, hown, ((below_alloc1 w _).grown hgr (by simp) (fun j hj => by cases hj; exact Nat.le_refl _))⟩
theorem clone_nil (w : World) :
    Calls Try.prog 25 #[.slice none 0 0] w fun e w' => e = .returned (.slice none 0 0) ∧ w = w' := by
  have hnil := fun (w : World) => Lib.run_eql_slice_nil (P := Try.prog) w 49 57 none 0 0 0 0 Try.underlying49
  go_enter Try.func25, Try.ntmps25
  go_wp2_with fail
  go_ret
  exact ⟨rfl, rfl⟩
theorem clone_any (v : Value) (l : List V) (hl : l.length ≤ 1000000) (w : World) (hv : IsRow w v l) (hs : ∀ n c, v = .slice none n c → c = 0) :
    Calls Try.prog 25 #[v] w fun e w' => ∃ v', e = .returned v' ∧ w'.ownsRow w.heap.size TV 3 v' l.length (vCells l) ∧ Below w.heap.size w w' := by
  obtain ⟨a, cap, rfl, hlen, h⟩ := hv
  cases a with
  | none =>
    have h0 : l.length = 0 := by
      rcases h with h | ⟨b, off, e, -⟩
      · exact h
      · cases e
    have hc := hs _ _ rfl
    subst hc
    have hl0 : l = [] := List.length_eq_zero_iff.1 h0
    subst hl0
    refine (clone_nil w).mono ?_
    rintro e w' ⟨he, rfl⟩
    exact ⟨_, he, World.ownsRow_nil _ _ _ _, Below.refl _ _⟩
  | some p => exact clone_some p cap l hl w ⟨some p, cap, rfl, hlen, h⟩
end Go.Proofs.Ytpkkhbmlclicfaa.val
