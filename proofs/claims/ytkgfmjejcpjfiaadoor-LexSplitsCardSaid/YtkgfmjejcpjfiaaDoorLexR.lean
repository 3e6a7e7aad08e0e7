/- The document's run of bytes of a class, and its sign, walked. -/
import Derived.Test.YtkgfmjejcpjfiaaDoorLexH
namespace Go.Proofs.YtkgfmjejcpjfiaaDoor.lx
set_option linter.unusedVariables false
open Go.RowKit

set_option maxRecDepth 100000 in
set_option maxHeartbeats 2000000 in
theorem rrun_any (p : UInt8 → Bool) (a b c : Nat) (hp : ∀ x, p x = (classN x == a || classN x == b || classN x == c)) (s : ByteArray) (i : Nat) (hi : i ≤ s.size) (hs : s.size ≤ 1099511627776) (W : World) :
    Calls Tryd.prog 13 #[.string s, .int .i64 (i : Int), .int .i64 (a : Int), .int .i64 (b : Int), .int .i64 (c : Int)] W fun e w' => e = .returned (.int .i64 (((s.data.toList.drop i).takeWhile p).length : Int)) ∧ W = w' := by
  have hd1 : (0 : Int) ≤ (s.size : Int) := by omega
  have hi0 : (0 : Int) ≤ (i : Int) := by omega
  have hi1 : (i : Int) ≤ (s.size : Int) := by omega
  obtain ⟨N, hN⟩ : ∃ N, ((s.data.toList.drop i).takeWhile p).length = N := ⟨_, rfl⟩
  have hle : N ≤ s.size - i := by rw [← hN, ← data_len, ← List.length_drop]; exact (List.takeWhile_prefix p).length_le
  have h1 := run_lt p (s.data.toList.drop i)
  have h2 := run_end p (s.data.toList.drop i)
  rw [hN]
  have H1 := Lib.hid h1
  have H2 := Lib.hid h2
  have HN := Lib.hid hN
  have HP := Lib.hid hp
  clear h1 h2 hN hp
  go_enter Tryd.func13, Tryd.ntmps13
  go_wp2
  go_loopw [11, 12] (fun n _ wr => ∃ k : Nat, n = .int .i64 (k : Int) ∧ k ≤ N ∧ W = wr) (fun n _ _ => N - (intOf n).toNat)
  case atStart => exact ⟨0, rfl, Nat.zero_le _, rfl⟩
  case round =>
    obtain ⟨k, rfl, hk, rfl⟩ := hrel
    have hd0 : (0 : Int) ≤ (k : Int) := by omega
    by_cases hz : i + k < s.size
    · have dz : (i : Int) + (k : Int) < (s.size : Int) := by omega
      have hl : k < (s.data.toList.drop i).length := by rw [List.length_drop, data_len]; omega
      have hat : (s.data.toList.drop i)[k] = s[i + k] := by rw [List.getElem_drop]; rfl
      have HC := Lib.hid (fun W => class_any s[i + k] W)
      have hpc := HP.out s[i + k]
      have hq0 : (0 : Int) ≤ (classN s[i + k] : Int) := by omega
      by_cases hk2 : k < N
      · obtain ⟨_, hpp⟩ := H1.out k (by rw [HN.out]; exact hk2)
        rw [hat, hpc] at hpp
        generalize classN s[i + k] = C at *
        simp only [Bool.or_eq_true, beq_iff_eq] at hpp
        by_cases ha : C = a
        · have e1 : ((C : Int) != (a : Int)) = false := by simp; omega
          clear hpp hpc ha hat
          go_wp2_with (go_at_call 12; (with_reducible refine (HC.out _).mono ?_); rintro e w1 ⟨rfl, rfl⟩)
          go_roundw
          case rel => exact ⟨k + 1, by go_num, by omega, by first | rfl | trivial⟩
          case measure => simp [intOf]; omega
        · have e1 : ((C : Int) != (a : Int)) = true := by simp; omega
          by_cases hb : C = b
          · have e2 : ((C : Int) != (b : Int)) = false := by simp; omega
            clear hpp hpc ha hb hat
            go_wp2_with (go_at_call 12; (with_reducible refine (HC.out _).mono ?_); rintro e w1 ⟨rfl, rfl⟩)
            go_roundw
            case rel => exact ⟨k + 1, by go_num, by omega, by first | rfl | trivial⟩
            case measure => simp [intOf]; omega
          · have e2 : ((C : Int) != (b : Int)) = true := by simp; omega
            have e3 : ((C : Int) != (c : Int)) = false := by simp; omega
            clear hpp hpc ha hb hat
            go_wp2_with (go_at_call 12; (with_reducible refine (HC.out _).mono ?_); rintro e w1 ⟨rfl, rfl⟩)
            go_roundw
            case rel => exact ⟨k + 1, by go_num, by omega, by first | rfl | trivial⟩
            case measure => simp [intOf]; omega
      · obtain rfl : k = N := by omega
        have hpp : p (s.data.toList.drop i)[k] = false := by
          have h := H2.out
          simp only [HN.out] at h
          exact h hl
        rw [hat, hpc] at hpp
        generalize classN s[i + k] = C at *
        simp only [Bool.or_eq_false_iff, beq_eq_false_iff_ne] at hpp
        have e1 : ((C : Int) != (a : Int)) = true := by simp; omega
        have e2 : ((C : Int) != (b : Int)) = true := by simp; omega
        have e3 : ((C : Int) != (c : Int)) = true := by simp; omega
        clear hpp hpc hat
        go_wp2_with (go_at_call 12; (with_reducible refine (HC.out _).mono ?_); rintro e w1 ⟨rfl, rfl⟩)
        go_ret
        exact ⟨rfl, rfl⟩
    · have dz : ¬ (i : Int) + (k : Int) < (s.size : Int) := by omega
      obtain rfl : k = N := by omega
      go_wp2_with fail
      go_ret
      exact ⟨rfl, rfl⟩
/-- the sign that begins a text, or none -/
def signR (l : List UInt8) : List UInt8 := match signsL.find? (fun x => x.isPrefixOf l) with
  | some x => x
  | none => []
theorem two_pref (l : List UInt8) (a b : UInt8) (h : 2 ≤ l.length) : (l.take 2 == [a, b]) = List.isPrefixOf [a, b] l := by
  match l, h with
  | x :: y :: r, _ =>
    rw [Bool.eq_iff_iff]
    simp only [List.take_succ_cons, List.take_zero, List.isPrefixOf, beq_iff_eq, List.cons.injEq, and_true, Bool.and_eq_true, Bool.and_true]
    constructor
    · rintro ⟨rfl, rfl⟩; exact ⟨rfl, rfl⟩
    · rintro ⟨rfl, rfl⟩; exact ⟨rfl, rfl⟩
theorem two_short (l : List UInt8) (a b : UInt8) (h : l.length < 2) : List.isPrefixOf [a, b] l = false := by
  match l, h with
  | [], _ => rfl
  | [x], _ => simp [List.isPrefixOf]
theorem one_pref (x a : UInt8) (r : List UInt8) : ((x.toNat : Int) == (a.toNat : Int)) = List.isPrefixOf [a] (x :: r) := by
  rw [Bool.eq_iff_iff]
  simp only [List.isPrefixOf, beq_iff_eq, Bool.and_true]
  constructor
  · intro h; exact (UInt8.toNat_inj.1 (by omega)).symm
  · rintro rfl; rfl
theorem ext_text (s : ByteArray) (n : Nat) : (s.extract 0 n).data.toList = s.data.toList.take n := by
  rw [ByteArray.data_extract, Array.toList_extract, List.extract_eq_take_drop]
  simp
theorem bytes_of {s : ByteArray} {l : List UInt8} (h : s.data.toList = l) : s = ⟨l.toArray⟩ := by subst h; exact (bytes_self s).symm

set_option maxRecDepth 100000 in
set_option maxHeartbeats 4000000 in
theorem rsign_any (s : ByteArray) (hs : s.size ≤ 1099511627776) (h0 : 0 < s.size) (W : World) : Calls Tryd.prog 14 #[.string s] W fun e w' => e = .returned (.string ⟨(signR s.data.toList).toArray⟩) ∧ W = w' := by
  have hs0 : (0 : Int) ≤ (s.size : Int) := by omega
  have hs1 : (0 : Int) < (s.size : Int) := by omega
  have hc : (s[0].toNat : Int) < 256 := by have := s[0].toNat_lt; omega
  have hc0 : (0 : Int) ≤ (s[0].toNat : Int) := by omega
  obtain ⟨r, hr⟩ := first_0 s h0
  obtain ⟨X, hX⟩ : ∃ X, signR s.data.toList = X := ⟨_, rfl⟩
  rw [hX]
  have p4 := one_pref s[0] 40 r
  rw [← hr, show (((40 : UInt8).toNat : Nat) : Int) = 40 from rfl] at p4
  have p5 := one_pref s[0] 41 r
  rw [← hr, show (((41 : UInt8).toNat : Nat) : Int) = 41 from rfl] at p5
  have p6 := one_pref s[0] 44 r
  rw [← hr, show (((44 : UInt8).toNat : Nat) : Int) = 44 from rfl] at p6
  have p7 := one_pref s[0] 46 r
  rw [← hr, show (((46 : UInt8).toNat : Nat) : Int) = 46 from rfl] at p7
  have p8 := one_pref s[0] 42 r
  rw [← hr, show (((42 : UInt8).toNat : Nat) : Int) = 42 from rfl] at p8
  have p9 := one_pref s[0] 43 r
  rw [← hr, show (((43 : UInt8).toNat : Nat) : Int) = 43 from rfl] at p9
  have p10 := one_pref s[0] 45 r
  rw [← hr, show (((45 : UInt8).toNat : Nat) : Int) = 45 from rfl] at p10
  have p11 := one_pref s[0] 47 r
  rw [← hr, show (((47 : UInt8).toNat : Nat) : Int) = 47 from rfl] at p11
  have p12 := one_pref s[0] 37 r
  rw [← hr, show (((37 : UInt8).toNat : Nat) : Int) = 37 from rfl] at p12
  have p13 := one_pref s[0] 61 r
  rw [← hr, show (((61 : UInt8).toNat : Nat) : Int) = 61 from rfl] at p13
  have p14 := one_pref s[0] 60 r
  rw [← hr, show (((60 : UInt8).toNat : Nat) : Int) = 60 from rfl] at p14
  have p15 := one_pref s[0] 62 r
  rw [← hr, show (((62 : UInt8).toNat : Nat) : Int) = 62 from rfl] at p15
  unfold signR signsL at hX
  rw [List.find?_cons, List.find?_cons, List.find?_cons, List.find?_cons, List.find?_cons, List.find?_cons, List.find?_cons, List.find?_cons, List.find?_cons, List.find?_cons, List.find?_cons, List.find?_cons, List.find?_cons, List.find?_cons, List.find?_cons, List.find?_cons] at hX
  have hx2 : (s.extract 0 2).data.toList = s.data.toList.take 2 := ext_text s 2
  have hx1 : (s.extract 0 1).data.toList = [s[0]] := by rw [ext_text, hr]; rfl
  by_cases h2 : 2 ≤ s.size
  · have d2 : (2 : Int) ≤ (s.size : Int) := by omega
    have q0 := two_pref s.data.toList 60 62 (by rw [data_len]; exact h2)
    rw [← hx2, ← ByteArray.toList_eq] at q0
    have q1 := two_pref s.data.toList 60 61 (by rw [data_len]; exact h2)
    rw [← hx2, ← ByteArray.toList_eq] at q1
    have q2 := two_pref s.data.toList 62 61 (by rw [data_len]; exact h2)
    rw [← hx2, ← ByteArray.toList_eq] at q2
    have q3 := two_pref s.data.toList 124 124 (by rw [data_len]; exact h2)
    rw [← hx2, ← ByteArray.toList_eq] at q3
    cases b0 : List.isPrefixOf [60, 62] s.data.toList with
    | true =>
      rw [b0] at hX q0
      simp only at hX
      have hl := eq_of_beq q0
      have hE := bytes_of ((ByteArray.toList_eq (s.extract 0 2)).symm.trans hl)
      subst hX
      have HE := Lib.hid hE
      clear hE hl hr hx1 hx2 b0
      go_enter Tryd.func14, Tryd.ntmps14
      go_wp2_with fail
      go_ret
      exact ⟨by rw [← HE.out]; rfl, rfl⟩
    | false =>
      rw [b0] at hX q0
      simp only at hX
      clear b0
      cases b1 : List.isPrefixOf [60, 61] s.data.toList with
      | true =>
        rw [b1] at hX q1
        simp only at hX
        have hl := eq_of_beq q1
        have hE := bytes_of ((ByteArray.toList_eq (s.extract 0 2)).symm.trans hl)
        subst hX
        have HE := Lib.hid hE
        clear hE hl hr hx1 hx2 b1
        go_enter Tryd.func14, Tryd.ntmps14
        go_wp2_with fail
        go_ret
        exact ⟨by rw [← HE.out]; rfl, rfl⟩
      | false =>
        rw [b1] at hX q1
        simp only at hX
        clear b1
        cases b2 : List.isPrefixOf [62, 61] s.data.toList with
        | true =>
          rw [b2] at hX q2
          simp only at hX
          have hl := eq_of_beq q2
          have hE := bytes_of ((ByteArray.toList_eq (s.extract 0 2)).symm.trans hl)
          subst hX
          have HE := Lib.hid hE
          clear hE hl hr hx1 hx2 b2
          go_enter Tryd.func14, Tryd.ntmps14
          go_wp2_with fail
          go_ret
          exact ⟨by rw [← HE.out]; rfl, rfl⟩
        | false =>
          rw [b2] at hX q2
          simp only at hX
          clear b2
          cases b3 : List.isPrefixOf [124, 124] s.data.toList with
          | true =>
            rw [b3] at hX q3
            simp only at hX
            have hl := eq_of_beq q3
            have hE := bytes_of ((ByteArray.toList_eq (s.extract 0 2)).symm.trans hl)
            subst hX
            have HE := Lib.hid hE
            clear hE hl hr hx1 hx2 b3
            go_enter Tryd.func14, Tryd.ntmps14
            go_wp2_with fail
            go_ret
            exact ⟨by rw [← HE.out]; rfl, rfl⟩
          | false =>
            rw [b3] at hX q3
            simp only at hX
            clear b3
            cases b4 : List.isPrefixOf [40] s.data.toList with
            | true =>
              rw [b4] at hX p4
              simp only at hX
              have hl : s[0] = 40 := by
                have h := eq_of_beq p4
                exact UInt8.toNat_inj.1 (by have : ((40 : UInt8).toNat : Int) = 40 := rfl; omega)
              have hE := bytes_of hx1
              rw [hl] at hE
              subst hX
              have HE := Lib.hid hE
              clear hE hl hr hx1 hx2 b4
              go_enter Tryd.func14, Tryd.ntmps14
              go_wp2_with fail
              go_ret
              exact ⟨by rw [← HE.out]; rfl, rfl⟩
            | false =>
              rw [b4] at hX p4
              simp only at hX
              clear b4
              cases b5 : List.isPrefixOf [41] s.data.toList with
              | true =>
                rw [b5] at hX p5
                simp only at hX
                have hl : s[0] = 41 := by
                  have h := eq_of_beq p5
                  exact UInt8.toNat_inj.1 (by have : ((41 : UInt8).toNat : Int) = 41 := rfl; omega)
                have hE := bytes_of hx1
                rw [hl] at hE
                subst hX
                have HE := Lib.hid hE
                clear hE hl hr hx1 hx2 b5
                go_enter Tryd.func14, Tryd.ntmps14
                go_wp2_with fail
                go_ret
                exact ⟨by rw [← HE.out]; rfl, rfl⟩
              | false =>
                rw [b5] at hX p5
                simp only at hX
                clear b5
                cases b6 : List.isPrefixOf [44] s.data.toList with
                | true =>
                  rw [b6] at hX p6
                  simp only at hX
                  have hl : s[0] = 44 := by
                    have h := eq_of_beq p6
                    exact UInt8.toNat_inj.1 (by have : ((44 : UInt8).toNat : Int) = 44 := rfl; omega)
                  have hE := bytes_of hx1
                  rw [hl] at hE
                  subst hX
                  have HE := Lib.hid hE
                  clear hE hl hr hx1 hx2 b6
                  go_enter Tryd.func14, Tryd.ntmps14
                  go_wp2_with fail
                  go_ret
                  exact ⟨by rw [← HE.out]; rfl, rfl⟩
                | false =>
                  rw [b6] at hX p6
                  simp only at hX
                  clear b6
                  cases b7 : List.isPrefixOf [46] s.data.toList with
                  | true =>
                    rw [b7] at hX p7
                    simp only at hX
                    have hl : s[0] = 46 := by
                      have h := eq_of_beq p7
                      exact UInt8.toNat_inj.1 (by have : ((46 : UInt8).toNat : Int) = 46 := rfl; omega)
                    have hE := bytes_of hx1
                    rw [hl] at hE
                    subst hX
                    have HE := Lib.hid hE
                    clear hE hl hr hx1 hx2 b7
                    go_enter Tryd.func14, Tryd.ntmps14
                    go_wp2_with fail
                    go_ret
                    exact ⟨by rw [← HE.out]; rfl, rfl⟩
                  | false =>
                    rw [b7] at hX p7
                    simp only at hX
                    clear b7
                    cases b8 : List.isPrefixOf [42] s.data.toList with
                    | true =>
                      rw [b8] at hX p8
                      simp only at hX
                      have hl : s[0] = 42 := by
                        have h := eq_of_beq p8
                        exact UInt8.toNat_inj.1 (by have : ((42 : UInt8).toNat : Int) = 42 := rfl; omega)
                      have hE := bytes_of hx1
                      rw [hl] at hE
                      subst hX
                      have HE := Lib.hid hE
                      clear hE hl hr hx1 hx2 b8
                      go_enter Tryd.func14, Tryd.ntmps14
                      go_wp2_with fail
                      go_ret
                      exact ⟨by rw [← HE.out]; rfl, rfl⟩
                    | false =>
                      rw [b8] at hX p8
                      simp only at hX
                      clear b8
                      cases b9 : List.isPrefixOf [43] s.data.toList with
                      | true =>
                        rw [b9] at hX p9
                        simp only at hX
                        have hl : s[0] = 43 := by
                          have h := eq_of_beq p9
                          exact UInt8.toNat_inj.1 (by have : ((43 : UInt8).toNat : Int) = 43 := rfl; omega)
                        have hE := bytes_of hx1
                        rw [hl] at hE
                        subst hX
                        have HE := Lib.hid hE
                        clear hE hl hr hx1 hx2 b9
                        go_enter Tryd.func14, Tryd.ntmps14
                        go_wp2_with fail
                        go_ret
                        exact ⟨by rw [← HE.out]; rfl, rfl⟩
                      | false =>
                        rw [b9] at hX p9
                        simp only at hX
                        clear b9
                        cases b10 : List.isPrefixOf [45] s.data.toList with
                        | true =>
                          rw [b10] at hX p10
                          simp only at hX
                          have hl : s[0] = 45 := by
                            have h := eq_of_beq p10
                            exact UInt8.toNat_inj.1 (by have : ((45 : UInt8).toNat : Int) = 45 := rfl; omega)
                          have hE := bytes_of hx1
                          rw [hl] at hE
                          subst hX
                          have HE := Lib.hid hE
                          clear hE hl hr hx1 hx2 b10
                          go_enter Tryd.func14, Tryd.ntmps14
                          go_wp2_with fail
                          go_ret
                          exact ⟨by rw [← HE.out]; rfl, rfl⟩
                        | false =>
                          rw [b10] at hX p10
                          simp only at hX
                          clear b10
                          cases b11 : List.isPrefixOf [47] s.data.toList with
                          | true =>
                            rw [b11] at hX p11
                            simp only at hX
                            have hl : s[0] = 47 := by
                              have h := eq_of_beq p11
                              exact UInt8.toNat_inj.1 (by have : ((47 : UInt8).toNat : Int) = 47 := rfl; omega)
                            have hE := bytes_of hx1
                            rw [hl] at hE
                            subst hX
                            have HE := Lib.hid hE
                            clear hE hl hr hx1 hx2 b11
                            go_enter Tryd.func14, Tryd.ntmps14
                            go_wp2_with fail
                            go_ret
                            exact ⟨by rw [← HE.out]; rfl, rfl⟩
                          | false =>
                            rw [b11] at hX p11
                            simp only at hX
                            clear b11
                            cases b12 : List.isPrefixOf [37] s.data.toList with
                            | true =>
                              rw [b12] at hX p12
                              simp only at hX
                              have hl : s[0] = 37 := by
                                have h := eq_of_beq p12
                                exact UInt8.toNat_inj.1 (by have : ((37 : UInt8).toNat : Int) = 37 := rfl; omega)
                              have hE := bytes_of hx1
                              rw [hl] at hE
                              subst hX
                              have HE := Lib.hid hE
                              clear hE hl hr hx1 hx2 b12
                              go_enter Tryd.func14, Tryd.ntmps14
                              go_wp2_with fail
                              go_ret
                              exact ⟨by rw [← HE.out]; rfl, rfl⟩
                            | false =>
                              rw [b12] at hX p12
                              simp only at hX
                              clear b12
                              cases b13 : List.isPrefixOf [61] s.data.toList with
                              | true =>
                                rw [b13] at hX p13
                                simp only at hX
                                have hl : s[0] = 61 := by
                                  have h := eq_of_beq p13
                                  exact UInt8.toNat_inj.1 (by have : ((61 : UInt8).toNat : Int) = 61 := rfl; omega)
                                have hE := bytes_of hx1
                                rw [hl] at hE
                                subst hX
                                have HE := Lib.hid hE
                                clear hE hl hr hx1 hx2 b13
                                go_enter Tryd.func14, Tryd.ntmps14
                                go_wp2_with fail
                                go_ret
                                exact ⟨by rw [← HE.out]; rfl, rfl⟩
                              | false =>
                                rw [b13] at hX p13
                                simp only at hX
                                clear b13
                                cases b14 : List.isPrefixOf [60] s.data.toList with
                                | true =>
                                  rw [b14] at hX p14
                                  simp only at hX
                                  have hl : s[0] = 60 := by
                                    have h := eq_of_beq p14
                                    exact UInt8.toNat_inj.1 (by have : ((60 : UInt8).toNat : Int) = 60 := rfl; omega)
                                  have hE := bytes_of hx1
                                  rw [hl] at hE
                                  subst hX
                                  have HE := Lib.hid hE
                                  clear hE hl hr hx1 hx2 b14
                                  go_enter Tryd.func14, Tryd.ntmps14
                                  go_wp2_with fail
                                  go_ret
                                  exact ⟨by rw [← HE.out]; rfl, rfl⟩
                                | false =>
                                  rw [b14] at hX p14
                                  simp only at hX
                                  clear b14
                                  cases b15 : List.isPrefixOf [62] s.data.toList with
                                  | true =>
                                    rw [b15] at hX p15
                                    simp only at hX
                                    have hl : s[0] = 62 := by
                                      have h := eq_of_beq p15
                                      exact UInt8.toNat_inj.1 (by have : ((62 : UInt8).toNat : Int) = 62 := rfl; omega)
                                    have hE := bytes_of hx1
                                    rw [hl] at hE
                                    subst hX
                                    have HE := Lib.hid hE
                                    clear hE hl hr hx1 hx2 b15
                                    go_enter Tryd.func14, Tryd.ntmps14
                                    go_wp2_with fail
                                    go_ret
                                    exact ⟨by rw [← HE.out]; rfl, rfl⟩
                                  | false =>
                                    rw [b15] at hX p15
                                    simp only at hX
                                    clear b15
                                    have hXX : X = [] := by rw [← hX]; rfl
                                    subst hXX
                                    clear hX hr hx1 hx2
                                    go_enter Tryd.func14, Tryd.ntmps14
                                    go_wp2_with fail
                                    go_ret
                                    exact ⟨rfl, rfl⟩
  · have d2 : ¬ (2 : Int) ≤ (s.size : Int) := by omega
    rw [two_short s.data.toList 60 62 (by rw [data_len]; omega)] at hX
    simp only at hX
    rw [two_short s.data.toList 60 61 (by rw [data_len]; omega)] at hX
    simp only at hX
    rw [two_short s.data.toList 62 61 (by rw [data_len]; omega)] at hX
    simp only at hX
    rw [two_short s.data.toList 124 124 (by rw [data_len]; omega)] at hX
    simp only at hX
    cases b4 : List.isPrefixOf [40] s.data.toList with
    | true =>
      rw [b4] at hX p4
      simp only at hX
      have hl : s[0] = 40 := by
        have h := eq_of_beq p4
        exact UInt8.toNat_inj.1 (by have : ((40 : UInt8).toNat : Int) = 40 := rfl; omega)
      have hE := bytes_of hx1
      rw [hl] at hE
      subst hX
      have HE := Lib.hid hE
      clear hE hl hr hx1 hx2 b4
      go_enter Tryd.func14, Tryd.ntmps14
      go_wp2_with fail
      go_ret
      exact ⟨by rw [← HE.out]; rfl, rfl⟩
    | false =>
      rw [b4] at hX p4
      simp only at hX
      clear b4
      cases b5 : List.isPrefixOf [41] s.data.toList with
      | true =>
        rw [b5] at hX p5
        simp only at hX
        have hl : s[0] = 41 := by
          have h := eq_of_beq p5
          exact UInt8.toNat_inj.1 (by have : ((41 : UInt8).toNat : Int) = 41 := rfl; omega)
        have hE := bytes_of hx1
        rw [hl] at hE
        subst hX
        have HE := Lib.hid hE
        clear hE hl hr hx1 hx2 b5
        go_enter Tryd.func14, Tryd.ntmps14
        go_wp2_with fail
        go_ret
        exact ⟨by rw [← HE.out]; rfl, rfl⟩
      | false =>
        rw [b5] at hX p5
        simp only at hX
        clear b5
        cases b6 : List.isPrefixOf [44] s.data.toList with
        | true =>
          rw [b6] at hX p6
          simp only at hX
          have hl : s[0] = 44 := by
            have h := eq_of_beq p6
            exact UInt8.toNat_inj.1 (by have : ((44 : UInt8).toNat : Int) = 44 := rfl; omega)
          have hE := bytes_of hx1
          rw [hl] at hE
          subst hX
          have HE := Lib.hid hE
          clear hE hl hr hx1 hx2 b6
          go_enter Tryd.func14, Tryd.ntmps14
          go_wp2_with fail
          go_ret
          exact ⟨by rw [← HE.out]; rfl, rfl⟩
        | false =>
          rw [b6] at hX p6
          simp only at hX
          clear b6
          cases b7 : List.isPrefixOf [46] s.data.toList with
          | true =>
            rw [b7] at hX p7
            simp only at hX
            have hl : s[0] = 46 := by
              have h := eq_of_beq p7
              exact UInt8.toNat_inj.1 (by have : ((46 : UInt8).toNat : Int) = 46 := rfl; omega)
            have hE := bytes_of hx1
            rw [hl] at hE
            subst hX
            have HE := Lib.hid hE
            clear hE hl hr hx1 hx2 b7
            go_enter Tryd.func14, Tryd.ntmps14
            go_wp2_with fail
            go_ret
            exact ⟨by rw [← HE.out]; rfl, rfl⟩
          | false =>
            rw [b7] at hX p7
            simp only at hX
            clear b7
            cases b8 : List.isPrefixOf [42] s.data.toList with
            | true =>
              rw [b8] at hX p8
              simp only at hX
              have hl : s[0] = 42 := by
                have h := eq_of_beq p8
                exact UInt8.toNat_inj.1 (by have : ((42 : UInt8).toNat : Int) = 42 := rfl; omega)
              have hE := bytes_of hx1
              rw [hl] at hE
              subst hX
              have HE := Lib.hid hE
              clear hE hl hr hx1 hx2 b8
              go_enter Tryd.func14, Tryd.ntmps14
              go_wp2_with fail
              go_ret
              exact ⟨by rw [← HE.out]; rfl, rfl⟩
            | false =>
              rw [b8] at hX p8
              simp only at hX
              clear b8
              cases b9 : List.isPrefixOf [43] s.data.toList with
              | true =>
                rw [b9] at hX p9
                simp only at hX
                have hl : s[0] = 43 := by
                  have h := eq_of_beq p9
                  exact UInt8.toNat_inj.1 (by have : ((43 : UInt8).toNat : Int) = 43 := rfl; omega)
                have hE := bytes_of hx1
                rw [hl] at hE
                subst hX
                have HE := Lib.hid hE
                clear hE hl hr hx1 hx2 b9
                go_enter Tryd.func14, Tryd.ntmps14
                go_wp2_with fail
                go_ret
                exact ⟨by rw [← HE.out]; rfl, rfl⟩
              | false =>
                rw [b9] at hX p9
                simp only at hX
                clear b9
                cases b10 : List.isPrefixOf [45] s.data.toList with
                | true =>
                  rw [b10] at hX p10
                  simp only at hX
                  have hl : s[0] = 45 := by
                    have h := eq_of_beq p10
                    exact UInt8.toNat_inj.1 (by have : ((45 : UInt8).toNat : Int) = 45 := rfl; omega)
                  have hE := bytes_of hx1
                  rw [hl] at hE
                  subst hX
                  have HE := Lib.hid hE
                  clear hE hl hr hx1 hx2 b10
                  go_enter Tryd.func14, Tryd.ntmps14
                  go_wp2_with fail
                  go_ret
                  exact ⟨by rw [← HE.out]; rfl, rfl⟩
                | false =>
                  rw [b10] at hX p10
                  simp only at hX
                  clear b10
                  cases b11 : List.isPrefixOf [47] s.data.toList with
                  | true =>
                    rw [b11] at hX p11
                    simp only at hX
                    have hl : s[0] = 47 := by
                      have h := eq_of_beq p11
                      exact UInt8.toNat_inj.1 (by have : ((47 : UInt8).toNat : Int) = 47 := rfl; omega)
                    have hE := bytes_of hx1
                    rw [hl] at hE
                    subst hX
                    have HE := Lib.hid hE
                    clear hE hl hr hx1 hx2 b11
                    go_enter Tryd.func14, Tryd.ntmps14
                    go_wp2_with fail
                    go_ret
                    exact ⟨by rw [← HE.out]; rfl, rfl⟩
                  | false =>
                    rw [b11] at hX p11
                    simp only at hX
                    clear b11
                    cases b12 : List.isPrefixOf [37] s.data.toList with
                    | true =>
                      rw [b12] at hX p12
                      simp only at hX
                      have hl : s[0] = 37 := by
                        have h := eq_of_beq p12
                        exact UInt8.toNat_inj.1 (by have : ((37 : UInt8).toNat : Int) = 37 := rfl; omega)
                      have hE := bytes_of hx1
                      rw [hl] at hE
                      subst hX
                      have HE := Lib.hid hE
                      clear hE hl hr hx1 hx2 b12
                      go_enter Tryd.func14, Tryd.ntmps14
                      go_wp2_with fail
                      go_ret
                      exact ⟨by rw [← HE.out]; rfl, rfl⟩
                    | false =>
                      rw [b12] at hX p12
                      simp only at hX
                      clear b12
                      cases b13 : List.isPrefixOf [61] s.data.toList with
                      | true =>
                        rw [b13] at hX p13
                        simp only at hX
                        have hl : s[0] = 61 := by
                          have h := eq_of_beq p13
                          exact UInt8.toNat_inj.1 (by have : ((61 : UInt8).toNat : Int) = 61 := rfl; omega)
                        have hE := bytes_of hx1
                        rw [hl] at hE
                        subst hX
                        have HE := Lib.hid hE
                        clear hE hl hr hx1 hx2 b13
                        go_enter Tryd.func14, Tryd.ntmps14
                        go_wp2_with fail
                        go_ret
                        exact ⟨by rw [← HE.out]; rfl, rfl⟩
                      | false =>
                        rw [b13] at hX p13
                        simp only at hX
                        clear b13
                        cases b14 : List.isPrefixOf [60] s.data.toList with
                        | true =>
                          rw [b14] at hX p14
                          simp only at hX
                          have hl : s[0] = 60 := by
                            have h := eq_of_beq p14
                            exact UInt8.toNat_inj.1 (by have : ((60 : UInt8).toNat : Int) = 60 := rfl; omega)
                          have hE := bytes_of hx1
                          rw [hl] at hE
                          subst hX
                          have HE := Lib.hid hE
                          clear hE hl hr hx1 hx2 b14
                          go_enter Tryd.func14, Tryd.ntmps14
                          go_wp2_with fail
                          go_ret
                          exact ⟨by rw [← HE.out]; rfl, rfl⟩
                        | false =>
                          rw [b14] at hX p14
                          simp only at hX
                          clear b14
                          cases b15 : List.isPrefixOf [62] s.data.toList with
                          | true =>
                            rw [b15] at hX p15
                            simp only at hX
                            have hl : s[0] = 62 := by
                              have h := eq_of_beq p15
                              exact UInt8.toNat_inj.1 (by have : ((62 : UInt8).toNat : Int) = 62 := rfl; omega)
                            have hE := bytes_of hx1
                            rw [hl] at hE
                            subst hX
                            have HE := Lib.hid hE
                            clear hE hl hr hx1 hx2 b15
                            go_enter Tryd.func14, Tryd.ntmps14
                            go_wp2_with fail
                            go_ret
                            exact ⟨by rw [← HE.out]; rfl, rfl⟩
                          | false =>
                            rw [b15] at hX p15
                            simp only at hX
                            clear b15
                            have hXX : X = [] := by rw [← hX]; rfl
                            subst hXX
                            clear hX hr hx1 hx2
                            go_enter Tryd.func14, Tryd.ntmps14
                            go_wp2_with fail
                            go_ret
                            exact ⟨rfl, rfl⟩
end Go.Proofs.YtkgfmjejcpjfiaaDoor.lx
