/- The list of stamps: tags spread. -/
import Derived.Test.YtbaepjjanjhliaaOrderP
namespace Go.Proofs.Ytbaepjjanjhliaa.ord
set_option linter.unusedVariables false
open Go.RowKit arK
variable {own : Nat → Prop} {bl b : Nat} {s s' : Ar Lk} {w w' : World}

theorem sq_mul (c a : Int) : (c * a) * (c * a) = (c * c) * (a * a) := by rw [Int.mul_assoc, Int.mul_left_comm a c a, ← Int.mul_assoc]
/-- how many a range may hold, in parts: below the range's root -/
theorem most_step {m z : Int} (m0 : 0 ≤ m) (h : m * m ≤ 2147483648 * z) (z0 : 2 ≤ z) : (m + m / 3) * (m + m / 3) ≤ 2147483648 * (z * 2) := by
  have h1 : 3 * (m + m / 3) ≤ 4 * m := by omega
  have h2 : 0 ≤ 3 * (m + m / 3) := by omega
  have h3 := Int.mul_le_mul h1 h1 h2 (by omega : 0 ≤ 4 * m)
  rw [sq_mul, sq_mul] at h3
  omega
theorem most_bd {m z : Int} (m0 : 0 ≤ m) (h : m * m ≤ 2147483648 * z) (z1 : z ≤ 4611686018427387904) : m ≤ 281474976710656 := by
  rcases Int.lt_or_le 281474976710656 m with hc | hc
  · have := Int.mul_le_mul (Int.le_of_lt hc) (Int.le_of_lt hc) (by omega) m0
    omega
  · exact hc
/-- a number's part that a power of two divides -/
theorem andnot_low (t j : Nat) (ht : t < 4611686018427387904) (hj : j ≤ 62) : bits .andNot .i64 (t : Int) (((2 ^ j : Nat) : Int) - 1) = ((t / 2 ^ j * 2 ^ j : Nat) : Int) := by
  have hp : 1 ≤ 2 ^ j := Nat.two_pow_pos j
  have e1 : ((2 ^ j : Nat) : Int) - 1 = ((2 ^ j - 1 : Nat) : Int) := by omega
  have e : (BitVec.ofInt 64 (t : Int) &&& ~~~ BitVec.ofInt 64 (((2 ^ j : Nat) : Int) - 1)).toNat = t / 2 ^ j * 2 ^ j := by
    rw [e1, BitVec.ofInt_natCast, BitVec.ofInt_natCast]
    apply Nat.eq_of_testBit_eq
    intro i
    show (BitVec.ofNat 64 t &&& ~~~ BitVec.ofNat 64 (2 ^ j - 1)).getLsbD i = _
    rw [BitVec.getLsbD_and, BitVec.getLsbD_not, BitVec.getLsbD_ofNat, BitVec.getLsbD_ofNat, Nat.testBit_two_pow_sub_one, Nat.testBit_mul_two_pow, Nat.testBit_div_two_pow]
    by_cases h64 : i < 64
    · rw [decide_eq_true h64]
      by_cases hij : i < j
      · rw [decide_eq_true hij, decide_eq_false (show ¬ j ≤ i by omega)]; simp
      · rw [decide_eq_false hij, decide_eq_true (show j ≤ i by omega), show i - j + j = i by omega]; simp
    · rw [decide_eq_false h64]
      have : t.testBit i = false := Nat.testBit_lt_two_pow (Nat.lt_of_lt_of_le ht (show 4611686018427387904 ≤ 2 ^ i by
        have := Nat.pow_le_pow_right (show 0 < 2 by decide) (show 62 ≤ i by omega)
        have h62 : (2 : Nat) ^ 62 = 4611686018427387904 := by decide
        omega))
      by_cases hij : j ≤ i
      · rw [decide_eq_true hij, show i - j + j = i by omega, this]; simp
      · omega
  show IntKind.i64.wrap ((BitVec.ofInt 64 (t : Int) &&& ~~~ BitVec.ofInt 64 (((2 ^ j : Nat) : Int) - 1)).toNat : Int) = _
  rw [e, IntKind.wrap_i64]
  have h2 : t / 2 ^ j * 2 ^ j ≤ t := Nat.div_mul_le_self t _
  omega
theorem low_ex {t z : Int} (t0 : 0 ≤ t) (t1 : t < 4611686018427387904) (hz : ∃ j : Nat, j ≤ 62 ∧ z = ((2 ^ j : Nat) : Int)) : ∃ lo : Int, bits .andNot .i64 t (z - 1) = lo ∧ 0 ≤ lo ∧ lo + z ≤ 4611686018427387904 := by
  obtain ⟨j, hj, rfl⟩ := hz
  obtain ⟨n, rfl⟩ : ∃ n : Nat, t = n := ⟨t.toNat, by omega⟩
  refine ⟨_, andnot_low n j (by omega) hj, by omega, ?_⟩
  have h1 : (2 : Nat) ^ j * 2 ^ (62 - j) = 4611686018427387904 := by rw [← Nat.pow_add, show j + (62 - j) = 62 by omega]
  have h2 : n / 2 ^ j < 2 ^ (62 - j) := (Nat.div_lt_iff_lt_mul (Nat.two_pow_pos j)).2 (by rw [Nat.mul_comm, h1]; omega)
  have h3 : (n / 2 ^ j + 1) * 2 ^ j ≤ 2 ^ (62 - j) * 2 ^ j := Nat.mul_le_mul_right _ h2
  rw [Nat.add_mul, Nat.one_mul, Nat.mul_comm (2 ^ (62 - j)), h1] at h3
  omega
theorem pow_even {z : Int} (h : ∃ j : Nat, j ≤ 62 ∧ z = ((2 ^ j : Nat) : Int)) (z0 : 2 ≤ z) : z % 2 = 0 := by
  obtain ⟨j, -, rfl⟩ := h
  rcases j with _ | j
  · omega
  · rw [Nat.pow_succ]; omega
theorem pow_next {z : Int} (h : ∃ j : Nat, j ≤ 62 ∧ z = ((2 ^ j : Nat) : Int)) (hz : z ≠ 4611686018427387904) : ∃ j : Nat, j ≤ 62 ∧ z * 2 = ((2 ^ j : Nat) : Int) := by
  obtain ⟨j, hj, rfl⟩ := h
  have hne : j ≠ 62 := fun e => by subst e; exact hz (by decide)
  exact ⟨j + 1, by omega, by rw [Nat.pow_succ]; omega⟩
theorem pow_top {z : Int} (h : ∃ j : Nat, j ≤ 62 ∧ z = ((2 ^ j : Nat) : Int)) : z * 2 ≤ 4611686018427387904 ∨ z = 4611686018427387904 := by
  obtain ⟨j, hj, rfl⟩ := h
  by_cases e : j = 62
  · subst e; right; decide
  · left
    have : (2 : Nat) ^ j ≤ 2 ^ 61 := Nat.pow_le_pow_right (by decide) (by omega)
    have h61 : (2 : Nat) ^ 61 = 2305843009213693952 := by decide
    omega
/-- the stamp ahead of a place, or none; the one behind it -/
def pvV (L : List Int) (k : Nat) : Int := if k = 0 then -1 else (L[k - 1]?).getD (-1)
def nxV (L : List Int) (k : Nat) : Int := (L[k + 1]?).getD (-1)
theorem pvV_zero (L : List Int) : pvV L 0 = -1 := rfl
theorem pvV_at {L : List Int} {k : Nat} (h0 : k ≠ 0) (hk : k < L.length) : ∃ q, L[k - 1]? = some q ∧ pvV L k = q := by
  have e := List.getElem?_eq_getElem (show k - 1 < L.length by omega)
  exact ⟨_, e, by unfold pvV; rw [if_neg h0, e]; rfl⟩
theorem nxV_end {L : List Int} {k : Nat} (hk : L.length ≤ k + 1) : nxV L k = -1 := by unfold nxV; rw [List.getElem?_eq_none (by omega)]; rfl
theorem nxV_at {L : List Int} {k : Nat} (hk : k + 1 < L.length) : ∃ q, L[k + 1]? = some q ∧ nxV L k = q := by
  have e := List.getElem?_eq_getElem hk
  exact ⟨_, e, by unfold nxV; rw [e]; rfl⟩
theorem prev_at (h : LI own bl b s w) {L : List Int} (hk : Ok s L) {k : Nat} {i : Int} (hi : L[k]? = some i) : Calls Try.prog 65 #[.pointer (some ⟨bl, 0, none⟩), .int .i64 i] w fun e w' => e = .returned (.int .i64 (pvV L k)) ∧ Below w.heap.size w w' := by
  have := prev_l h i
  rw [hk.pv k i hi] at this; exact this
theorem next_at (h : LI own bl b s w) {L : List Int} (hk : Ok s L) {k : Nat} {i : Int} (hi : L[k]? = some i) : Calls Try.prog 66 #[.pointer (some ⟨bl, 0, none⟩), .int .i64 i] w fun e w' => e = .returned (.int .i64 (nxV L k)) ∧ Below w.heap.size w w' := by
  have := next_l h i
  rw [hk.nx k i hi] at this; exact this
set_option maxRecDepth 100000 in
set_option maxHeartbeats 8000000 in
theorem spread_l (h : LI own bl b s w) {L : List Int} (hk : Ok s L) (hlen : L.length ≤ 1048576) {p : Nat} {i : Int} (hp : L[p]? = some i) :
    Calls Try.prog 57 #[.pointer (some ⟨bl, 0, none⟩), .int .i64 i] w fun e w' => (∃ v, e = .returned v) ∧ (∃ s', LI own bl b s' w' ∧ Ok s' L ∧ Same s s' ∧ 2 ≤ gapF s' i) ∧ Only own w w' := by
  have HI := Lib.hid h; have HK := Lib.hid hk; have HP := Lib.hid hp
  have hb := hk.bd i (List.mem_of_getElem? hp)
  have HT := Lib.hid (tag_l h i)
  clear h hk hp
  generalize htt : (getAt s i).t = t at *
  have HTT := Lib.hid htt
  clear htt
  obtain ⟨t0, t1⟩ := hb
  go_enter Try.func57, Try.ntmps57
  go_wp2_with fail
  (with_reducible refine HT.out.mono ?_); rintro e w1 ⟨rfl, hb1⟩
  go_wp2_with fail
  have HB1 := Lib.hid hb1
  have hpl := (List.getElem?_eq_some_iff.1 HP.out).1
  clear hb1
  go_loopw [5, 6, 7, 8, 9] (fun fv lv cv mv sv wr => ∃ (f l : Nat) (fi li m z : Int), fv = .int .i64 fi ∧ lv = .int .i64 li ∧ cv = .int .i64 ((l + 1 - f : Nat) : Int) ∧ mv = .int .i64 m ∧ sv = .int .i64 z ∧ f ≤ p ∧ p ≤ l ∧ l < L.length ∧ Hid (L[f]? = some fi) ∧ Hid (L[l]? = some li) ∧ 0 ≤ m ∧ 4 * m < 65536 * (z + 4) ∧ Hid (m * m ≤ 2147483648 * z) ∧ 2 ≤ z ∧ z ≤ 4611686018427387904 ∧ Hid (∃ j : Nat, j ≤ 62 ∧ z = ((2 ^ j : Nat) : Int)) ∧ Hid (Below w.heap.size w wr)) (fun _ _ _ _ sv _ => (9223372036854775808 - intOf sv).toNat)
  case atStart => exact ⟨p, p, i, i, 65536, 2, rfl, rfl, by simp, rfl, rfl, Nat.le_refl _, Nat.le_refl _, hpl, HP, HP, by omega, by omega, Lib.hid (by omega), by omega, by omega, Lib.hid ⟨1, by omega, rfl⟩, HB1⟩
  case round =>
    obtain ⟨f, l, fi, li, m, z, rfl, rfl, rfl, rfl, rfl, hf, hpl', hl, hF, hLL, m0, m1, hQ, z0, z1, hJ, hB⟩ := hrel
    have m2 := most_bd m0 hQ.out z1
    obtain ⟨lo, hlo, lo0, lo1⟩ := low_ex t0 t1 hJ.out
    have HPR := Lib.hid (prev_at (HI.out.later hB.out) HK.out hF.out)
    go_wp2_with fail
    (with_reducible refine HPR.out.mono ?_); rintro e w2 ⟨rfl, hb2⟩
    have HB2 := Lib.hid (after hB.out hb2 hB.out.size)
    clear hb2 HPR
    go_upto_block 2 with fail
    go_cut [5, 7, 11] from 31 to 45 (fun fv cv v11 wx => ∃ (f' : Nat) (fi' : Int), fv = .int .i64 fi' ∧ cv = .int .i64 ((l + 1 - f' : Nat) : Int) ∧ f' ≤ f ∧ Hid (L[f']? = some fi') ∧ Hid (∀ j, f' ≠ 0 → L[f' - 1]? = some j → (getAt s j).t < lo) ∧ Hid (Below w.heap.size w wx))
    case first =>
      go_wp2_with fail
      go_loopw [5, 7, 11] (fun fv cv v11 wr2 => ∃ (f' : Nat) (fi' : Int), fv = .int .i64 fi' ∧ cv = .int .i64 ((l + 1 - f' : Nat) : Int) ∧ v11 = .int .i64 (pvV L f') ∧ f' ≤ f ∧ Hid (L[f']? = some fi') ∧ Hid (Below w.heap.size w wr2)) (fun _ cv _ _ => (l + 1) - (intOf cv).toNat)
      case atStart => exact ⟨f, fi, rfl, rfl, rfl, Nat.le_refl _, hF, HB2⟩
      case round =>
        obtain ⟨f', fi', rfl, rfl, rfl, hff, hF', hB'⟩ := hrel
        by_cases h0 : f' = 0
        · subst h0
          rw [pvV_zero]
          go_wp2_with fail
          go_meet
          exact ⟨0, fi', rfl, rfl, hff, hF', Lib.hid (fun j h => absurd rfl h), hB'⟩
        · obtain ⟨q, hq, hqe⟩ := pvV_at h0 (show f' < L.length by omega)
          rw [hqe]
          have hqL := List.mem_of_getElem? hq
          have hq0 := HK.out.pos hqL
          have hqb := HK.out.bd q hqL
          have HQ := Lib.hid hq
          have q1 : (q != -1) = true := by simp; omega
          have HTQ := Lib.hid (fun w' hb => tag_l (w := w') (HI.out.later hb) q)
          have HPQ := Lib.hid (fun w' hb => prev_at (w := w') (HI.out.later hb) HK.out hq)
          generalize htq : (getAt s q).t = tq at *
          have HTE := Lib.hid htq
          have f1 : 1 ≤ f' := by omega
          have f2 : ((l + 1 - f' : Nat) : Int) + 1 = ((l + 1 - (f' - 1) : Nat) : Int) := by omega
          have F2 := Lib.hid f2
          have f3 : ((l + 1 - f' : Nat) : Int) ≤ 1048576 := by omega
          clear h0 hqe hq hqL htq f2
          obtain ⟨tq0, tq1⟩ := hqb
          by_cases hc : lo ≤ tq
          · go_wp2_with fail
            (with_reducible refine (HTQ.out _ hB'.out).mono ?_); rintro e w3 ⟨rfl, hb3⟩
            have HB3 := Lib.hid (after hB'.out hb3 hB'.out.size)
            clear hb3
            go_wp2_with fail
            (with_reducible refine (HPQ.out _ HB3.out).mono ?_); rintro e w4 ⟨rfl, hb4⟩
            have HB4 := Lib.hid (after HB3.out hb4 HB3.out.size)
            clear hb4
            go_wp2
            refine ⟨⟨f' - 1, q, rfl, by rw [F2.out], rfl, by omega, HQ, HB4⟩, ?_⟩
            simp [intOf]; omega
          · have hc' : tq < lo := by omega
            go_wp2_with fail
            (with_reducible refine (HTQ.out _ hB'.out).mono ?_); rintro e w3 ⟨rfl, hb3⟩
            have HB3 := Lib.hid (after hB'.out hb3 hB'.out.size)
            clear hb3
            go_wp2_with fail
            go_meet
            exact ⟨f', fi', rfl, rfl, hff, hF', Lib.hid (fun j _ hj => by rw [HQ.out] at hj; cases hj; rw [HTE.out]; exact hc'), HB3⟩
    case rest =>
      obtain ⟨f', fi', rfl, rfl, hff, hF', hbef, hB'⟩ := hcut
      have HNX := Lib.hid (next_at (HI.out.later hB'.out) HK.out hLL.out)
      go_wp2_with fail
      (with_reducible refine HNX.out.mono ?_); rintro e w3 ⟨rfl, hb3⟩
      have HB3 := Lib.hid (after hB'.out hb3 hB'.out.size)
      clear hb3 HNX
      go_upto_block 4 with fail
      go_cut [6, 7, 12] from 49 to 65 (fun lv cv v12 wx => ∃ (l' : Nat) (li' : Int), lv = .int .i64 li' ∧ cv = .int .i64 ((l' + 1 - f' : Nat) : Int) ∧ l ≤ l' ∧ l' < L.length ∧ Hid (∀ j, L[l' + 1]? = some j → lo + z ≤ (getAt s j).t) ∧ Hid (L[l']? = some li') ∧ Hid (Below w.heap.size w wx))
      case first =>
        go_wp2_with fail
        go_loopw [6, 7, 12] (fun lv cv v12 wr2 => ∃ (l' : Nat) (li' : Int), lv = .int .i64 li' ∧ cv = .int .i64 ((l' + 1 - f' : Nat) : Int) ∧ v12 = .int .i64 (nxV L l') ∧ l ≤ l' ∧ l' < L.length ∧ Hid (L[l']? = some li') ∧ Hid (Below w.heap.size w wr2)) (fun _ cv _ _ => (L.length + 1) - (intOf cv).toNat)
        case atStart => exact ⟨l, li, rfl, rfl, rfl, Nat.le_refl _, hl, hLL, HB3⟩
        case round =>
          obtain ⟨l', li', rfl, rfl, rfl, hll, hl', hL', hB''⟩ := hrel
          by_cases h0 : L.length ≤ l' + 1
          · rw [nxV_end h0]
            go_wp2_with fail
            go_meet
            exact ⟨l', li', rfl, rfl, hll, hl', Lib.hid (fun j h => by rw [List.getElem?_eq_none h0] at h; cases h), hL', hB''⟩
          · obtain ⟨q, hq, hqe⟩ := nxV_at (show l' + 1 < L.length by omega)
            rw [hqe]
            have hqL := List.mem_of_getElem? hq
            have hq0 := HK.out.pos hqL
            have hqb := HK.out.bd q hqL
            have HQ := Lib.hid hq
            have q1 : (q != -1) = true := by simp; omega
            have HTQ := Lib.hid (fun w' hb => tag_l (w := w') (HI.out.later hb) q)
            have HPQ := Lib.hid (fun w' hb => next_at (w := w') (HI.out.later hb) HK.out hq)
            generalize htq : (getAt s q).t = tq at *
            have HTE := Lib.hid htq
            have f2 : ((l' + 1 - f' : Nat) : Int) + 1 = ((l' + 1 + 1 - f' : Nat) : Int) := by omega
            have F2 := Lib.hid f2
            have f3 : ((l' + 1 - f' : Nat) : Int) ≤ 1048576 := by omega
            have hl2 : l' + 1 < L.length := by omega
            clear h0 hqe hq hqL htq f2
            obtain ⟨tq0, tq1⟩ := hqb
            by_cases hc : tq < lo + z
            · go_wp2_with fail
              (with_reducible refine (HTQ.out _ hB''.out).mono ?_); rintro e w4 ⟨rfl, hb4⟩
              have HB4 := Lib.hid (after hB''.out hb4 hB''.out.size)
              clear hb4
              go_wp2_with fail
              (with_reducible refine (HPQ.out _ HB4.out).mono ?_); rintro e w5 ⟨rfl, hb5⟩
              have HB5 := Lib.hid (after HB4.out hb5 HB4.out.size)
              clear hb5
              go_wp2
              refine ⟨⟨l' + 1, q, rfl, by rw [F2.out], rfl, by omega, hl2, HQ, HB5⟩, ?_⟩
              simp [intOf]; omega
            · have hc' : lo + z ≤ tq := by omega
              go_wp2_with fail
              (with_reducible refine (HTQ.out _ hB''.out).mono ?_); rintro e w4 ⟨rfl, hb4⟩
              have HB4 := Lib.hid (after hB''.out hb4 hB''.out.size)
              clear hb4
              go_wp2_with fail
              go_meet
              exact ⟨l', li', rfl, rfl, hll, hl', Lib.hid (fun j hj => by rw [HQ.out] at hj; cases hj; rw [HTE.out]; exact hc'), hL', HB4⟩
      case rest =>
        obtain ⟨l', li', rfl, rfl, hll, hl', hbeh, hL', hB''⟩ := hcut
        have hfl : f' ≤ l' := by omega
        have hlenS := sub_len (f := f') hl'
        have hcb : (1 : Int) ≤ ((l' + 1 - f' : Nat) : Int) ∧ ((l' + 1 - f' : Nat) : Int) ≤ 1048576 := by omega
        obtain ⟨c0, c1⟩ := hcb
        have HLAY : Hid (2 * ((l' + 1 - f' : Nat) : Int) ≤ z → Calls Try.prog 67 #[.pointer (some ⟨bl, 0, none⟩), .int .i64 fi', .int .i64 ((l' + 1 - f' : Nat) : Int), .int .i64 lo, .int .i64 (z / ((l' + 1 - f' : Nat) : Int))] wc fun e w' => (∃ v, e = .returned v) ∧ (∃ s', LI own bl b s' w' ∧ Ok s' L ∧ Same s s' ∧ 2 ≤ gapF s' i) ∧ Only own w w') := Lib.hid (fun h2 => by
          have hd : 2 ≤ z / ((l' + 1 - f' : Nat) : Int) := (Int.le_ediv_iff_mul_le (by omega)).2 h2
          have hs : ((l' + 1 - f' : Nat) : Int) * (z / ((l' + 1 - f' : Nat) : Int)) ≤ z := Int.mul_ediv_self_le (by omega)
          have hsp := spread_ok HK.out hfl hl' lo0 hd hs lo1 hbef.out hbeh.out
          have hly := lay_l (HI.out.later hB''.out) (sub L f' l') (sub_chain HK.out hl') fi' (by rw [sub_get (by omega)]; exact hF'.out) lo (z / ((l' + 1 - f' : Nat) : Int)) lo0 (by omega) (by rw [hlenS]; omega) (by omega)
          rw [hlenS] at hly
          refine hly.mono ?_
          rintro e w' ⟨hv, hL1, hO1⟩
          exact ⟨hv, ⟨_, hL1, hsp.1, Same.lay _ _ _ _, hsp.2 p i (by omega) (by omega) HP.out⟩, (Only.of_below hB''.out).trans hO1 (fun _ _ h => h)⟩)
        have HMS := Lib.hid (most_step m0 hQ.out z0)
        have mm0 : 0 ≤ m + m / 3 := by omega
        have mm1 : m + m / 3 ≤ 562949953421312 := by omega
        have mm2 : 3 * (m + m / 3) ≤ 4 * m := by omega
        have hev := pow_even hJ.out z0
        have htp := pow_top hJ.out
        have HPN := Lib.hid (fun h => pow_next hJ.out h)
        have HM1 := Lib.hid m1
        clear hF hLL hbef hbeh hlo hlenS HTT
        generalize m + m / 3 = m' at *
        generalize hcc : ((l' + 1 - f' : Nat) : Int) = c at *
        have HCC := Lib.hid hcc
        clear hcc
        by_cases hA : c ≤ m' / 65536
        · have h2 : 2 * c ≤ z := by omega
          have HL2 := Lib.hid (HLAY.out h2)
          clear HLAY h2 hev htp
          go_wp2_with fail
          (with_reducible refine HL2.out.mono ?_)
          rintro e w4 ⟨⟨v, rfl⟩, hex, hO⟩
          have HE := Lib.hid hex; have HO := Lib.hid hO
          clear hex hO
          go_wp2
          exact bodyPost_ret (v := .tuple #[]) (by simp [results, Try.results57]) (by rfl) ⟨⟨_, rfl⟩, HE.out, HO.out⟩
        · have hA' : m' / 65536 < c := by omega
          by_cases hz : z = 4611686018427387904
          · subst hz
            have HL2 := Lib.hid (HLAY.out (by omega))
            clear HLAY hev htp
            go_wp2_with fail
            (with_reducible refine HL2.out.mono ?_)
            rintro e w4 ⟨⟨v, rfl⟩, hex, hO⟩
            have HE := Lib.hid hex; have HO := Lib.hid hO
            clear hex hO
            go_wp2
            exact bodyPost_ret (v := .tuple #[]) (by simp [results, Try.results57]) (by rfl) ⟨⟨_, rfl⟩, HE.out, HO.out⟩
          · have hz2 : z * 2 ≤ 4611686018427387904 := by omega
            have hzq : (z == 4611686018427387904) = false := by simpa using hz
            have HPJ := Lib.hid (HPN.out hz)
            clear HLAY htp hz
            go_wp2
            refine ⟨⟨f', l', fi', li', m', z * 2, rfl, rfl, by rw [HCC.out], rfl, rfl, by omega, by omega, hl', hF', hL', mm0, by omega, HMS, by omega, hz2, HPJ, hB''⟩, ?_⟩
            simp [intOf]; omega
end Go.Proofs.Ytbaepjjanjhliaa.ord
