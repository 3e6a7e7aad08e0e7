/- A tree of one part, made in memory over a tree. -/
import Derived.Test.YtjnlimahcodomaaCheckP
import Derived.Test.YtjnlimahcodomaaCheckQ
import Derived.Test.YtjnlimahcodomaaExprB
import Derived.Test.YtjnlimahcodomaaExprOU
namespace Go.Proofs.Ytjnlimahcodomaa.ck
set_option linter.unusedVariables false
open Go.RowKit
open val (V null TV TR)
open ex (Ex Er TE ExAt erCells mayE mayEs plainP Fit)
theorem one_at {X : Nat → Prop} {d : Nat} {W' : World} {e : Ex} {r : Er} {g : Nat} (k : Int) (h : ExAt TE X d W' e r) (hf : Flds W' g TE (erCells [r])) : ExAt TE (fun b => b < W'.heap.size) (d + 1) W' (oneE k e) ⟨k, 0, null, ByteArray.empty, ByteArray.empty, .slice (some ⟨g, 0, none⟩) 1 1⟩ := by
  unfold oneE
  refine ⟨rfl, rfl, rfl, rfl, rfl, fun b hb => ?_, [r], rfl, ?_, fun i x u hx hu => ?_⟩
  · have hg : g = b := by simpa [Value.ownBlock] using hb
    subst hg
    exact hf.lt
  · exact owns_of_flds hf rfl (Nat.zero_le _) (by decide)
  · rcases i with _ | i
    · simp only [Ex.l, List.getElem?_cons_zero, Option.some.injEq] at hx hu
      subst hx hu
      exact h.mono (Nat.le_refl _) (fun b hb _ => hb)
    · simp [Ex.l] at hx
theorem alloc_size (w : World) (o : Obj) : (w.alloc o).heap.size = w.heap.size + 1 := by unfold World.alloc; simp
theorem one_slim {k : Int} {e : Ex} (h : e.slim) : (oneE k e).slim := by
  unfold oneE ex.Ex.slim ex.slimL ex.slimL
  exact ⟨by simp, h, trivial⟩
theorem one_may {k : Int} {e : Ex} {g : Bool} (hk : k = 4 ∨ k = 5) (h : mayE e g) : mayE (oneE k e) g := by
  have h8 : (k == 8) = false := by rcases hk with rfl | rfl <;> rfl
  unfold oneE mayE
  refine ⟨?_, fun h => by rcases hk with rfl | rfl <;> exact absurd h.1 (by decide), ?_⟩
  · rcases hk with rfl | rfl <;> simp [plainP, null]
  · unfold mayEs mayEs
    rw [h8, Bool.or_false]
    exact ⟨h, trivial⟩
theorem one_fit {k : Int} {e : Ex} (h : Fit e) : Fit (oneE k e) := by
  unfold oneE
  intro x hx
  rw [ex.Ex.parts_eq, ex.partsL_flat] at hx
  rcases List.mem_cons.1 hx with rfl | hx
  · show ByteArray.empty.size ≤ 1000 ∧ ByteArray.empty.size ≤ 1000 ∧ null.s.size ≤ 1000 ∧ (-9223372036854775808 ≤ null.n ∧ null.n ≤ 9223372036854775807)
    exact ⟨by decide, by decide, by decide, by decide, by decide⟩
  · obtain ⟨y, hy, hz⟩ := List.mem_flatMap.1 hx
    have he : y = e := by simpa [ex.Ex.l] using hy
    rw [he] at hz
    exact h x hz
theorem parts_noagg {e : Ex} (h : (aggE e).length = 0) : ∀ x ∈ e.parts, x.k ≠ 8 := fun x hx h8 => by
  have h1 : aggE e = [] := List.length_eq_zero_iff.1 h
  rw [aggE_parts] at h1
  have h2 : x ∈ e.parts.filter (fun x => decide (x.k = 8)) := List.mem_filter.2 ⟨hx, by simpa using h8⟩
  rw [h1] at h2
  cases h2
theorem one_noagg {k : Int} {e : Ex} (hk : k = 4 ∨ k = 5) (h : ∀ x ∈ e.parts, x.k ≠ 8) : ∀ x ∈ (oneE k e).parts, x.k ≠ 8 := by
  unfold oneE
  intro x hx
  rw [ex.Ex.parts_eq, ex.partsL_flat] at hx
  rcases List.mem_cons.1 hx with rfl | hx
  · show ¬ k = 8
    omega
  · obtain ⟨y, hy, hz⟩ := List.mem_flatMap.1 hx
    have he : y = e := by simpa [ex.Ex.l] using hy
    rw [he] at hz
    exact h x hz
end Go.Proofs.Ytjnlimahcodomaa.ck
