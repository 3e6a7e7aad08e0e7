/- The law's 'same': two lists of numbers; walked. -/
import Derived.Test.YtfaoeajaahnooaaCellG
import Derived.BigQuiet
namespace Go.Proofs.Ytfaoeajaahnooaa.cel
set_option linter.unusedVariables false
open Go.RowKit Go.WideShapes Go.MapKept

theorem below_drewN' {B : Nat} {a w : World} (h : Below B a w) (n : Nat) : Below B a (w.drewN n) := ⟨h.os, h.tape, h.output, h.size, h.block⟩
theorem take_step {la lb : List Int} {k : Nat} {x y : Int} (h : la.take k = lb.take k) (hx : la[k]? = some x) (hy : lb[k]? = some y) : la.take (k + 1) = lb.take (k + 1) ↔ x = y := by
  obtain ⟨ha, rfl⟩ := List.getElem?_eq_some_iff.1 hx
  obtain ⟨hb, rfl⟩ := List.getElem?_eq_some_iff.1 hy
  rw [List.take_succ_eq_append_getElem ha, List.take_succ_eq_append_getElem hb, h]
  simp only [List.append_right_inj, List.cons.injEq, and_true]
set_option maxRecDepth 100000 in
set_option maxHeartbeats 4000000 in
theorem same_any (va vb : Value) (la lb : List Int) (hla : la.length ≤ 1000000) (hlb : lb.length ≤ 1000000) (w : World) (ha : w.ownsRow 0 TI 1 va la.length (la.map encZ)) (hb : w.ownsRow 0 TI 1 vb lb.length (lb.map encZ)) :
    Calls Try.prog 12 #[va, vb] w fun e w' => e = .returned (.bool (decide (la = lb))) ∧ Below w.heap.size w w' := by
  obtain ⟨aa, ca, rfl⟩ := owns_shape ha
  obtain ⟨ab, cb, rfl⟩ := owns_shape hb
  have HA := Lib.hid ha; have HB := Lib.hid hb
  obtain ⟨na, hna⟩ : ∃ n, la.length = n := ⟨_, rfl⟩
  obtain ⟨nb, hnb⟩ : ∃ n, lb.length = n := ⟨_, rfl⟩
  rw [hna] at HA hla ⊢
  rw [hnb] at HB hlb ⊢
  have HNA := Lib.hid hna; have HNB := Lib.hid hnb
  have a0 : (0 : Int) ≤ (na : Int) := by omega
  have a1 : (na : Int) ≤ 1000000 := by omega
  have b0 : (0 : Int) ≤ (nb : Int) := by omega
  have b1 : (nb : Int) ≤ 1000000 := by omega
  clear ha hb hna hnb
  go_enter Try.func12, Try.ntmps12
  go_wp2_with fail
  go_loopw [5] (fun i wr => ∃ k : Nat, i = .int .i64 (k : Int) ∧ k ≤ na ∧ k ≤ nb ∧ la.take k = lb.take k ∧ Hid (Below w.heap.size w wr)) (fun i _ => na - (intOf i).toNat)
  case atStart => exact ⟨0, rfl, Nat.zero_le _, Nat.zero_le _, rfl, Lib.hid (Below.refl _ _)⟩
  case round =>
    obtain ⟨k, rfl, hka, hkb, htk, HBW⟩ := hrel
    have hd0 : (0 : Int) ≤ (k : Int) := by omega
    by_cases hlt : k < na ∧ k < nb
    · obtain ⟨h1, h2⟩ := hlt
      have d1 : (k : Int) < (na : Int) := by omega
      have d2 : (k : Int) < (nb : Int) := by omega
      obtain ⟨ga, rfl, -, hg1, hc1, -⟩ := owns_cellAt (owns_below HA.out HBW.out) (by omega)
      obtain ⟨gb, rfl, -, hg2, hc2, -⟩ := owns_cellAt (owns_below HB.out HBW.out) (by omega)
      have c1 := hc1 k (by omega)
      have c2 := hc2 k (by omega)
      obtain ⟨x, hx⟩ : ∃ x, la[k]? = some x := ⟨_, List.getElem?_eq_getElem (by have := HNA.out; omega)⟩
      obtain ⟨y, hy⟩ : ∃ y, lb[k]? = some y := ⟨_, List.getElem?_eq_getElem (by have := HNB.out; omega)⟩
      rw [List.getElem?_map, hx, Option.map_some] at c1
      rw [List.getElem?_map, hy, Option.map_some] at c2
      have HTS := Lib.hid (take_step htk hx hy)
      clear hc1 hc2
      go_upto_region 4 with fail
      go_quiet (fail)
      have HBQ := Lib.hid (below_drewN' HBW.out nq)
      by_cases hxy : x = y
      · have hne : (x != y) = false := by simpa using hxy
        rw [hne]
        have HTK : Hid (la.take (k + 1) = lb.take (k + 1)) := Lib.hid (HTS.out.2 hxy)
        clear hne hxy c1 c2 hx hy
        go_wp2_with fail
        go_roundw
        case rel => exact ⟨k + 1, by go_num, by omega, by omega, HTK.out, HBQ⟩
        case measure => simp [intOf]; omega
      · have hne : (x != y) = true := by simpa using hxy
        rw [hne]
        have HTK : Hid (decide (la = lb) = false) := Lib.hid (decide_eq_false fun e => hxy (HTS.out.1 (by rw [e])))
        clear hne hxy c1 c2 hx hy
        go_wp2_with fail
        go_ret
        exact ⟨by rw [HTK.out]; rfl, HBQ.out⟩
    · obtain ⟨B, hB⟩ : ∃ B, decide (na = nb) = B := ⟨_, rfl⟩
      have HEQ : Hid (decide (la = lb) = ((na : Int) == (nb : Int))) := Lib.hid (by
        have e1 := HNA.out; have e2 := HNB.out
        by_cases e : na = nb
        · subst e
          have h1 : la.take k = la := List.take_of_length_le (by omega)
          have h2 : lb.take k = lb := List.take_of_length_le (by omega)
          rw [h1, h2] at htk
          simp [htk]
        · have h1 : ¬ (na : Int) = (nb : Int) := by omega
          have h2 : ¬ la = lb := fun h => e (by rw [← e1, ← e2, h])
          simp [h1, h2])
      clear hB
      by_cases d1 : (k : Int) < (na : Int)
      · have d2 : ¬ (k : Int) < (nb : Int) := by omega
        go_wp2_with fail
        go_ret
        exact ⟨by rw [HEQ.out]; rfl, HBW.out⟩
      · go_wp2_with fail
        go_ret
        exact ⟨by rw [HEQ.out]; rfl, HBW.out⟩
end Go.Proofs.Ytfaoeajaahnooaa.cel
