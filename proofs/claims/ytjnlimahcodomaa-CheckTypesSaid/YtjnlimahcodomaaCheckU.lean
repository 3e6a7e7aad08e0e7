/- The expressions that layer 20's law begins with. Plain. -/
import Derived.Test.YtjnlimahcodomaaCheckQ
import Derived.Test.YtjnlimahcodomaaExprEG
namespace Go.Proofs.Ytjnlimahcodomaa.ck
set_option linter.unusedVariables false
open val (V null doV fitB notV negV ofB ofN ofS gB)
open ex (Ex plainP mayE mayEs Fit FitN)
def colA : Ex := .mk 2 0 null ByteArray.empty ⟨#[97]⟩ []
def spL : List Fd := [⟨⟨#[116]⟩, ⟨#[97]⟩, 3⟩]
def sp1 : Ex := .mk 3 7 null ByteArray.empty ByteArray.empty [colA, .mk 1 0 ⟨2, 1, ByteArray.empty⟩ ByteArray.empty ByteArray.empty []]
def sp2 : Ex := .mk 3 12 null ByteArray.empty ByteArray.empty [colA, .mk 1 0 ⟨3, 0, ⟨#[120]⟩⟩ ByteArray.empty ByteArray.empty []]
theorem sp_find : findF spL ByteArray.empty ⟨#[97]⟩ = (0, 0) := by
  unfold findF
  have h1 : scanF spL ByteArray.empty ⟨#[97]⟩ 1 = (0, 1) := by
    rw [scanF_succ (f := ⟨⟨#[116]⟩, ⟨#[97]⟩, 3⟩) rfl, if_pos (by unfold hitB; simp)]; rfl
  show (if (scanF spL ByteArray.empty ⟨#[97]⟩ 1).2 = 0 then _ else _) = _
  rw [h1]; rfl
theorem sp_col (g : Bool) : typeE g spL colA = (3, 0) := by
  unfold colA
  rw [typeE_mk, if_neg (by omega), if_neg (fun h => h rfl)]
  unfold topT
  rw [if_neg (by decide), if_pos rfl, sp_find]; rfl
theorem sp_lit (g : Bool) (v : V) : typeE g spL (.mk 1 0 v ByteArray.empty ByteArray.empty []) = (v.k, 0) := by
  rw [typeE_mk, if_neg (by omega), if_neg (fun h => h rfl)]
  unfold topT
  rw [if_pos rfl]
theorem sp1_type (g : Bool) : typeE g spL sp1 = (0, 5) := by
  unfold sp1
  rw [typeE_mk, if_neg (by omega)]
  simp only [List.map_cons, List.map_nil, sp_col, sp_lit]
  rfl
theorem sp2_type (g : Bool) : typeE g spL sp2 = (3, 0) := by
  unfold sp2
  rw [typeE_mk, if_neg (by omega)]
  simp only [List.map_cons, List.map_nil, sp_col, sp_lit]
  rfl
theorem sp2_eval : evalE spL [ofS ⟨#[121]⟩] sp2 = (ofS ⟨#[121, 120]⟩, 0) := by
  have hc : evalE spL [ofS ⟨#[121]⟩] colA = (ofS ⟨#[121]⟩, 0) := by
    unfold colA
    rw [evalE_mk, if_neg (by decide)]
    unfold topV
    rw [if_neg (by decide), if_pos rfl, sp_find]; rfl
  have hl : evalE spL [ofS ⟨#[121]⟩] (.mk 1 0 ⟨3, 0, ⟨#[120]⟩⟩ ByteArray.empty ByteArray.empty []) = (⟨3, 0, ⟨#[120]⟩⟩, 0) := by
    rw [evalE_mk, if_neg (by decide)]
    unfold topV
    rw [if_pos rfl]
  unfold sp2
  rw [evalE_mk]
  simp only [List.map_cons, List.map_nil, hc, hl]
  rfl
theorem good_a : lx.goodL [97] = true := by decide
theorem colA_may (g : Bool) : mayE colA g := by
  unfold colA mayE
  refine ⟨?_, by omega, by unfold mayEs; trivial⟩
  unfold plainP
  exact .inr (.inl ⟨rfl, rfl, rfl, rfl, good_a, .inl rfl⟩)
theorem sp1_may : mayE sp1 false := by
  unfold sp1 mayE
  refine ⟨?_, by decide, ?_⟩
  · unfold plainP; exact .inr (.inr (.inl ⟨rfl, rfl, rfl, rfl, rfl, by decide, by decide⟩))
  · unfold mayEs
    refine ⟨colA_may _, ?_⟩
    unfold mayEs
    refine ⟨?_, by unfold mayEs; trivial⟩
    unfold mayE
    refine ⟨?_, by decide, by unfold mayEs; trivial⟩
    unfold plainP
    exact .inl ⟨rfl, rfl, rfl, rfl, rfl, by kernel_rfl, .inr (by decide)⟩
theorem sp2_may : mayE sp2 false := by
  unfold sp2 mayE
  refine ⟨?_, by decide, ?_⟩
  · unfold plainP; exact .inr (.inr (.inl ⟨rfl, rfl, rfl, rfl, rfl, by decide, by decide⟩))
  · unfold mayEs
    refine ⟨colA_may _, ?_⟩
    unfold mayEs
    refine ⟨?_, by unfold mayEs; trivial⟩
    unfold mayE
    refine ⟨?_, by decide, by unfold mayEs; trivial⟩
    unfold plainP
    exact .inl ⟨rfl, rfl, rfl, rfl, rfl, by kernel_rfl, .inl (by decide)⟩
theorem sp_ok : RowOk spL [ofS ⟨#[121]⟩] := by
  refine ⟨rfl, fun i f hf => ?_, fun i f v hf hv => ?_⟩
  · cases i with
    | zero => simp [spL] at hf; subst hf; exact ⟨by decide, by decide⟩
    | succ i => simp [spL] at hf
  · cases i with
    | zero =>
      simp [spL] at hf hv
      subst hf hv
      exact ⟨.inr (.inr (.inr ⟨rfl, rfl, by decide⟩)), .inr rfl⟩
    | succ i => simp [spL] at hf
end Go.Proofs.Ytjnlimahcodomaa.ck
