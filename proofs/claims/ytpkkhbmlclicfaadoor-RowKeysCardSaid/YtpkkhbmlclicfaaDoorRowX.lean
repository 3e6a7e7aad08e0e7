/- The law RowKeys, walked. -/
import Derived.Test.YtpkkhbmlclicfaaDoorRowV
import Derived.Test.YtpkkhbmlclicfaaDoorRowW
namespace Go.Proofs.YtpkkhbmlclicfaaDoor.val
set_option linter.unusedVariables false
open Go.RowKit

theorem keyS_eq (l m : List V) (hl : ∀ x ∈ l, Good x) (hm : ∀ x ∈ m, Good x) : ((⟨(keyB l).toArray⟩ : ByteArray).toList == (⟨(keyB m).toArray⟩ : ByteArray).toList) = sameB l m := by
  rw [ByteArray.toList_eq, ByteArray.toList_eq, Bool.eq_iff_iff, sameB_iff l m hl hm]
  simp only [beq_iff_eq]
  constructor
  · intro h
    exact key_inj hl hm h
  · intro h; rw [h]
set_option maxRecDepth 100000 in
set_option maxHeartbeats 4000000 in
theorem keys7_walk (v u : Value) (xs ys : List Pl) (hlx : xs.length ≤ 9223372036854775807) (hly : ys.length ≤ 9223372036854775807) (hpx : ∀ x ∈ xs, PB x) (hpy : ∀ x ∈ ys, PB x) (m : Int) (W : World) (hm : W.cell? ⟨gMax, 0, none⟩ = some (.int .i64 m)) (hp : Pow10 W)
    (hv : Row W v 3 xs.length (pCells xs)) (hu : Row W u 3 ys.length (pCells ys)) :
    Calls Tryd.prog 8 #[v, u] W fun e w' => e = .returned (.bool true) ∧ Below W.heap.size W w' := by
  have HT1 := Lib.hid (fun W' (hb : Below W.heap.size W W') => told7_any v xs hlx hpx W' (hv.later hb))
  have HT2 := Lib.hid (fun W' (hb : Below W.heap.size W W') => told7_any u ys hly hpy W' (hu.later hb))
  have HSP := Lib.hid (speaks7 m W hm hp)
  clear hlx hly hpx hpy hm hp hv hu
  go_enter Tryd.func8, Tryd.ntmps8
  go_wp2_with fail
  (with_reducible refine (HSP.out).mono ?_); rintro e w1 ⟨rfl, hb1⟩
  have HB1 := Lib.hid hb1
  clear hb1
  go_wp2_with fail
  (with_reducible refine (HT1.out _ HB1.out).mono ?_); rintro e w2 ⟨va, vb, l, rfl, hl9, hgl, hoa, hob, hb2⟩
  have HB2 := Lib.hid (HB1.out.trans (hb2.mono HB1.out.size))
  have HA := Lib.hid (Row.of_owns hoa); have HBr := Lib.hid (Row.of_owns hob)
  obtain ⟨aA, cA, rfl⟩ := owns_shape hoa
  obtain ⟨aB, cB, rfl⟩ := owns_shape hob
  have HGL := Lib.hid hgl
  clear hb2 hoa hob hgl HB1
  go_wp2_with fail
  (with_reducible refine (HT2.out _ HB2.out).mono ?_); rintro e w3 ⟨vc, vd, n, rfl, hn9, hgn, hoc, hod, hb3⟩
  have HB3 := Lib.hid (HB2.out.trans (hb3.mono HB2.out.size))
  have HA3 := Lib.hid (HA.out.later hb3); have HB3r := Lib.hid (HBr.out.later hb3)
  have HC3 := Lib.hid (Row.of_owns hoc); have HD3 := Lib.hid (Row.of_owns hod)
  obtain ⟨aC, cC, rfl⟩ := owns_shape hoc
  obtain ⟨aD, cD, rfl⟩ := owns_shape hod
  have HGN := Lib.hid hgn
  clear hb3 hoc hod hgn HA HBr HB2 HT1 HT2 HSP
  have hl1 : (l.length : Int) ≤ 9 := by omega
  have hl0 : (0 : Int) ≤ (l.length : Int) := by omega
  obtain ⟨S1, hS1⟩ : ∃ S1, (⟨(keyB l).toArray⟩ : ByteArray) = S1 := ⟨_, rfl⟩
  obtain ⟨S2, hS2⟩ : ∃ S2, (⟨(keyB n).toArray⟩ : ByteArray) = S2 := ⟨_, rfl⟩
  obtain ⟨q, hq⟩ : ∃ q, sameB l n = q := ⟨_, rfl⟩
  have HK1 := Lib.hid (fun W' (hb : Below w3.heap.size w3 W') => by have h := key_any _ l HGL.out (by omega) W' (HA3.out.later hb); rwa [hS1] at h)
  have HGT := Lib.hid (fun W' => by have h := get_key l HGL.out (by omega) W'; rwa [hS1] at h)
  have HRK := Lib.hid (fun W' (hb : Below w3.heap.size w3 W') => by have h := refkey_any _ l HGL.out (by omega) W' (HB3r.out.later hb); rwa [hS1] at h)
  have HK2 := Lib.hid (fun W' (hb : Below w3.heap.size w3 W') => by have h := key_any _ n HGN.out (by omega) W' (HC3.out.later hb); rwa [hS2] at h)
  have HSM := Lib.hid (fun W' (hb : Below w3.heap.size w3 W') => by have h := refsame_any _ _ l n HGL.out HGN.out (by omega) (by omega) W' (HB3r.out.later hb) (HD3.out.later hb); rwa [hq] at h)
  have E1 : (S1.toList == S2.toList) = q := by rw [← hS1, ← hS2, ← hq]; exact keyS_eq l n HGL.out HGN.out
  have E2 : (S1.toList == S1.toList) = true := by simp
  have E3 : ((l.length : Int) == (l.length : Int)) = true := by simp
  have E4 : (q == q) = true := by cases q <;> rfl
  clear hS1 hS2 hq
  go_wp2_with fail
  (with_reducible refine (HK1.out _ (Below.refl _ _)).mono ?_); rintro e w4 ⟨rfl, hb4⟩
  have HB4 := Lib.hid hb4
  clear hb4
  go_wp2_with fail
  (with_reducible refine (HGT.out _).mono ?_); rintro e w5 ⟨v5, rfl, ho5, hb5⟩
  have HB5 := Lib.hid (HB4.out.trans (hb5.mono HB4.out.size))
  have HR5 := Lib.hid (Row.of_owns ho5)
  obtain ⟨a5, c5, rfl⟩ := owns_shape ho5
  have HCM := Lib.hid (fun W' (hb : Below w5.heap.size w5 W') => by have h := rcompare_any _ _ l l (by omega) (by omega) W' (HR5.out.later hb) (HA3.out.later (HB5.out.trans (hb.mono HB5.out.size))); rwa [cmpL_self] at h)
  clear hb5 ho5 HB4
  go_wp2_with fail
  (with_reducible refine (HRK.out _ HB5.out).mono ?_); rintro e w6 ⟨rfl, hb6⟩
  have HB6 := Lib.hid hb6
  clear hb6
  go_wp2_with fail
  (with_reducible refine (HCM.out _ HB6.out).mono ?_); rintro e w7 ⟨rfl, hb7⟩
  have HB7 := Lib.hid (HB6.out.trans (hb7.1.mono HB6.out.size))
  clear hb7
  go_wp2_with fail
  (with_reducible refine (HK2.out _ (HB5.out.trans (HB7.out.mono HB5.out.size))).mono ?_); rintro e w8 ⟨rfl, hb8⟩
  have HB8 := Lib.hid (HB7.out.trans (hb8.mono HB7.out.size))
  clear hb8
  go_wp2_with fail
  (with_reducible refine (HSM.out _ (HB5.out.trans (HB8.out.mono HB5.out.size))).mono ?_); rintro e w9 ⟨rfl, hb9⟩
  have HB9 := Lib.hid (HB8.out.trans (hb9.mono HB8.out.size))
  clear hb9
  go_wp2_with fail
  go_ret
  exact ⟨rfl, HB3.out.trans ((HB5.out.trans (HB9.out.mono HB5.out.size)).mono HB3.out.size)⟩
end Go.Proofs.YtpkkhbmlclicfaaDoor.val
