/- The document's Split, and its Pack. -/
import Derived.Test.YtpkkhbmlclicfaaDoorSplitW
namespace Go.Proofs.YtpkkhbmlclicfaaDoor
set_option linter.unusedVariables false
open Go.RowKit

theorem owns_form {w : World} {B : Nat} {e : TypeId} {k : Nat} {v : Value} {n : Nat} {xs : List Value} (h : w.ownsRow B e k v n xs) : ∃ a cap, v = .slice a n cap := by
  rcases h.2 with ⟨rfl, rfl⟩ | ⟨g, cap, cur, rfl, _⟩
  · exact ⟨_, _, rfl⟩
  · exact ⟨_, _, rfl⟩
/-- what the document's Split tells -/
def RefSplitPost (s : ByteArray) (w : World) (e : Ending) (w' : World) : Prop :=
  ∃ v, e = .returned (.tuple #[v, .bool (splitS s).2]) ∧ w'.ownsRow w.heap.size 9 1 v (splitS s).1.length ((splitS s).1.map Value.string) ∧ Below w.heap.size w w'
theorem RefSplitPost.mk {s : ByteArray} {w : World} {e : Ending} {w' : World} (l : List ByteArray) (b : Bool) (hb : splitS s = (l, b)) (v : Value) (he : e = .returned (.tuple #[v, .bool b])) (hv : w'.ownsRow w.heap.size 9 1 v l.length (l.map Value.string)) (hB : Below w.heap.size w w') : RefSplitPost s w e w' := by
  unfold RefSplitPost; rw [hb]; exact ⟨v, he, hv, hB⟩

theorem isEmpty_size (R : ByteArray) : R.toList.isEmpty = (R.size == 0) := by
  rw [Lib.toList_data]
  by_cases h : R.size = 0
  · rw [empty_of_size R h]; rfl
  · rw [isEmpty_of_size R h]; exact (beq_eq_false_iff_ne.2 h).symm

set_option maxRecDepth 100000 in
set_option maxHeartbeats 1000000 in
theorem refSplit_any (s : ByteArray) (w : World) (hs : s.size ≤ 1099511627776) :
    Calls Tryd.prog 39 #[.string s] w (RefSplitPost s w) := by
  obtain ⟨i0, hi, hz0, hz1, hz2⟩ := info_parts infoStr
  go_enter Tryd.func39, Tryd.ntmps39
  go_wp2
  go_loopw [0, 4] (fun r v wr => ∃ acc : List ByteArray, ∃ R : ByteArray, r = .string R ∧ SplitAt s acc R ∧ wr.ownsRow w.heap.size 9 1 v acc.length (acc.map Value.string) ∧ Below w.heap.size w wr) (fun r _ _ => match r with | .string R => R.size | _ => 0)
  case atStart => exact ⟨[], s, rfl, ⟨by simp, by simp⟩, World.ownsRow_nil _ _ _ _, Below.refl _ _⟩
  case round =>
    obtain ⟨acc, R, rfl, hA, hown, hB⟩ := hrel
    have hle := hA.2
    by_cases h4 : R.size < 4
    · have HA := Lib.hid hA; have HO := Lib.hid hown
      clear hA hown
      go_wp2
      go_ret2
      refine RefSplitPost.mk acc (R.size == 0) (by rw [HA.out.1, splitS_stop R (.inl h4)]; simp) _ ?_ HO.out hB
      rw [← isEmpty_size]; rfl
    · have g0 : (0 : Int) < (R.size : Int) := by omega
      have g0' : 0 < R.size := by omega
      have g1' : 1 < R.size := by omega
      have g2' : 2 < R.size := by omega
      have g3' : 3 < R.size := by omega
      have g1 : (1 : Int) < (R.size : Int) := by omega
      have g2 : (2 : Int) < (R.size : Int) := by omega
      have g3 : (3 : Int) < (R.size : Int) := by omega
      have hv := be4_sum R[0] R[1] R[2] R[3]
      rw [cutN_eq R g0' g1' g2' g3'] at hv
      by_cases hn : R.size < 4 + cutN R
      · have HA := Lib.hid hA; have HO := Lib.hid hown; have HN := Lib.hid hn
        have hg : (R.size : Int) - 4 < (cutN R : Int) := by omega
        generalize cutN R = N at hv hg
        clear hA hown hn
        go_wp2
        go_quiet (fail)
        go_wp2
        go_ret2
        refine RefSplitPost.mk acc false (by rw [HA.out.1, splitS_stop R (.inr HN.out), show (R.size == 0) = false from beq_eq_false_iff_ne.2 (by omega)]; simp) _ rfl HO.out (below_drewN hB _)
      · have hst := hA.step (by omega) (by omega)
        have HA := Lib.hid hst
        have hzl : (R.extract (4 + cutN R) R.size).size ≤ R.size - 4 := by rw [ByteArray.size_extract]; omega
        have hg : (cutN R : Int) ≤ (R.size : Int) - 4 := by omega
        have hg1 : (4 : Int) ≤ 4 + (cutN R : Int) := by omega
        have hg2 : 4 + (cutN R : Int) ≤ (R.size : Int) := by omega
        clear hst hA
        generalize cutN R = N at hv hg hg1 hg2 HA hn hzl
        go_wp2
        go_quiet (fail)
        go_wp2_with (at_builtin; refine wpList_append_own _ rfl _ _ 70 rfl w.heap.size 9 i0 (.string ⟨#[]⟩) 1 16 Tryd.underlying70 hi hz0 hz1 hz2 rfl (by decide) _ _ _ rfl (hown.alloc _) ⟨wr.heap.size, 0, none⟩ 1 1 [.string (R.extract 4 (4 + N))] rfl rfl (cell_one_new _ _ _) ?c2 ?c3 ?c4 ?c5 ?_)
        case c2 => intro u hu; simp at hu; subst hu; rfl
        case c3 => unfold maxLen; omega
        case c4 => omega
        case c5 => have := hB.size; simp; omega
        intro v' w2 hown' hgrow _
        have hB2 : Below w.heap.size w w2 := ((below_drewN hB nq).alloc hB.size _).grown hgrow (by have := hB.size; simp; omega) (fun k hk => (hown.lt k hk).1)
        have HO := Lib.hid hown'
        clear hown hown' hgrow
        go_wp2
        go_roundw
        case rel => exact ⟨_, _, rfl, HA.out, by simpa using HO.out, hB2⟩
        case measure => simp; omega

end Go.Proofs.YtpkkhbmlclicfaaDoor
