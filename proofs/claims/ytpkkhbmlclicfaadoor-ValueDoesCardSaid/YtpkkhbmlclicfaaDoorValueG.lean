/- The law ValueDoes, walked. -/
import Derived.Test.YtpkkhbmlclicfaaDoorValueN
import Derived.Test.YtpkkhbmlclicfaaDoorValueNB
import Derived.Test.YtpkkhbmlclicfaaDoorObj
import Derived.Outline
namespace Go.Proofs.YtpkkhbmlclicfaaDoor.val
set_option linter.unusedVariables false
open Go.RowKit

attribute [local go_sem high] run_eqlV run_neqV run_eqR

/-- the cells of a value, of whatever type -/
abbrev fl6 (v : V) : List Value := [.int .i64 v.k, .int .i64 v.n, .string v.s]
theorem _root_.Go.Proofs.YtpkkhbmlclicfaaDoor.Flds.three' {w : World} {g : Nat} {T : TypeId} {v : V} (h : Flds w g T (fl6 v)) : w.cell? ⟨g, 0, none⟩ = some (.int .i64 v.k) ∧ w.cell? ⟨g, 1, none⟩ = some (.int .i64 v.n) ∧ w.cell? ⟨g, 2, none⟩ = some (.string v.s) := ⟨h.cell 0, h.cell 1, h.cell 2⟩

theorem num_doV (op na nb r : Int) (sa sb : ByteArray) (h : op = 10 ∨ op = 11) (h0 : nb ≠ 0) (hr : exact op na nb = r) : (InR r → doV op ⟨2, na, sa⟩ ⟨2, nb, sb⟩ = (ofN r, 0)) ∧ (¬ InR r → doV op ⟨2, na, sa⟩ ⟨2, nb, sb⟩ = (null, 8)) := by
  have E : doV op ⟨2, na, sa⟩ ⟨2, nb, sb⟩ = if (countV op na nb).2 = 0 then (ofN (countV op na nb).1, 0) else (null, (countV op na nb).2) := by
    unfold doV fitB
    rw [if_neg (by omega), if_neg (by rw [if_neg (by omega), if_neg (by omega), if_neg (by omega)]; simp), if_neg (by omega), if_neg (by simp), if_neg (by omega), if_neg (by omega)]
  have hv := cV op na nb r hr (fun hh => h0 hh.1)
  exact ⟨fun h => by rw [E, hv.1 h, if_pos rfl], fun h => by rw [E, hv.2 h, if_neg (by decide)]⟩
theorem ref_num (op na nb : Int) (sa sb : ByteArray) (h : 7 ≤ op ∧ op ≤ 11) (ha : -9223372036854775808 ≤ na ∧ na ≤ 9223372036854775807) (hb : -9223372036854775808 ≤ nb ∧ nb ≤ 9223372036854775807) (W : World) :
    Calls Tryd.prog 13 #[.int .i64 op, ag3 2 na sa, ag3 2 nb sb] W fun e w' => e = .returned (.tuple #[vv (doV op ⟨2, na, sa⟩ ⟨2, nb, sb⟩).1, .int .i64 (doV op ⟨2, na, sa⟩ ⟨2, nb, sb⟩).2]) ∧ Below W.heap.size W w' := by
  have ho : op = 7 ∨ op = 8 ∨ op = 9 ∨ op = 10 ∨ op = 11 := by omega
  rcases ho with rfl | rfl | rfl | rfl | rfl
  · exact ref_add na nb sa sb ha hb W
  · exact ref_sub na nb sa sb ha hb W
  · exact ref_mul na nb sa sb ha hb W
  · by_cases h0 : nb = 0
    · subst h0; exact ref_zero 10 na sa sb (.inl rfl) W
    · by_cases h1 : nb = -1
      · subst h1
        have hv := num_doV 10 na (-1) (-na) sa sb (.inl rfl) h0 (by show na.tdiv (-1) = -na; rw [Int.tdiv_neg, Int.tdiv_one])
        by_cases hm : na = -9223372036854775808
        · subst hm
          rw [hv.2 (by unfold InR; omega)]
          exact ref_div_minus_no sa sb W
        · rw [hv.1 (by unfold InR; omega)]
          exact ref_div_minus na sa sb ha hm W
      · have hv := num_doV 10 na nb (na.tdiv nb) sa sb (.inl rfl) h0 rfl
        rw [hv.1 (tdiv_in na nb ha h0 (fun h => h1 h.2))]
        exact ref_div na nb sa sb ha hb h0 h1 W
  · by_cases h0 : nb = 0
    · subst h0; exact ref_zero 11 na sa sb (.inr rfl) W
    · by_cases h1 : nb = -1
      · subst h1
        have hv := num_doV 11 na (-1) 0 sa sb (.inr rfl) h0 (by show na.tmod (-1) = 0; rw [Int.tmod_neg, Int.tmod_one])
        rw [hv.1 (by unfold InR; omega)]
        exact ref_mod_minus na sa sb ha W
      · have hv := num_doV 11 na nb (na.tmod nb) sa sb (.inr rfl) h0 rfl
        have ht := tmod_in na nb h0
        rw [hv.1 (by unfold InR; omega)]
        exact ref_mod na nb sa sb ha hb h0 h1 W
theorem ref_do_any (op ka na kb nb : Int) (sa sb : ByteArray) (W : World) (ga : Good ⟨ka, na, sa⟩) (gb : Good ⟨kb, nb, sb⟩) : Calls Tryd.prog 13 #[.int .i64 op, ag3 ka na sa, ag3 kb nb sb] W fun e w' => e = .returned (.tuple #[vv (doV op ⟨ka, na, sa⟩ ⟨kb, nb, sb⟩).1, .int .i64 (doV op ⟨ka, na, sa⟩ ⟨kb, nb, sb⟩).2]) ∧ Below W.heap.size W w' := by
  by_cases h : op < 1 ∨ 14 < op
  · exact ref_arg op ka na kb nb sa sb W h
  cases hf : fitB op ka kb
  · exact ref_type op ka na kb nb sa sb W (by omega) hf
  by_cases h13 : 13 ≤ op
  · by_cases h14 : op = 14
    · subst h14; exact ref_logic14 ka na kb nb sa sb W hf
    · obtain rfl : op = 13 := by omega
      exact ref_logic13 ka na kb nb sa sb W hf
  by_cases h0 : ka = 0 ∨ kb = 0
  · exact ref_null op ka na kb nb sa sb W (by omega) hf h0
  by_cases h6 : op ≤ 6
  · exact ref_cmp op ka na kb nb sa sb W (by omega) hf h0 ga gb
  by_cases h12 : op = 12
  · subst h12
    exact ref_text ka na kb nb sa sb W hf h0 ga gb
  · have hk : ka = 2 ∧ kb = 2 := by
      unfold fitB at hf
      rw [if_neg h6, if_neg h12, if_neg h13] at hf
      simp at hf; omega
    obtain ⟨rfl, rfl⟩ := hk
    exact ref_num op na nb sa sb (by omega) (good_n ga) (good_n gb) W
theorem doV_err (op : Int) (a b : V) : 0 ≤ (doV op a b).2 ∧ (doV op a b).2 ≤ 9 := by
  unfold doV countV
  (repeat' split) <;> simp
set_option maxRecDepth 100000 in
set_option maxHeartbeats 4000000 in
theorem does_walk (op kx nx ky ny : Int) (sx sy : ByteArray) (hkx : 0 ≤ kx ∧ kx ≤ 255) (hky : 0 ≤ ky ∧ ky ≤ 255) (hnx : -9223372036854775808 ≤ nx ∧ nx ≤ 9223372036854775807) (hny : -9223372036854775808 ≤ ny ∧ ny ≤ 9223372036854775807) (hsx : sx.size ≤ maxLen) (hsy : sy.size ≤ maxLen)
    (m : Int) (W : World) (hm : W.cell? ⟨gMax, 0, none⟩ = some (.int .i64 m)) :
    Calls Tryd.prog 3 #[.int .i64 op, .agg #[.int .u8 kx, .int .i64 nx, .string sx], .agg #[.int .u8 ky, .int .i64 ny, .string sy]] W fun e w' => e = .returned (.bool true) ∧ Below W.heap.size W w' := by
  have HM := Lib.hid hm
  have HT1 := Lib.hid (told_any kx nx sx hkx hnx hsx)
  have HT2 := Lib.hid (told_any ky ny sy hky hny hsy)
  clear hm hkx hky hnx hny hsx hsy
  go_enter Tryd.func3, Tryd.ntmps3
  go_wp2_with fail
  (with_reducible refine (speaks m _ (cell_later (below_alloc2 _ _ _) HM.out)).mono ?_); rintro e w1 ⟨rfl, hw1⟩
  have hx1 := fun i v (h : [Value.int .u8 kx, .int .i64 nx, .string sx][i]? = some v) => cell_later hw1 (cell_later (below_alloc1 _ (.cells #[.int .u8 ky, .int .i64 ny, .string sy] 23)) ((cells_new W [.int .u8 kx, .int .i64 nx, .string sx] 23 i).trans h))
  have hy1 : ∀ i v, [Value.int .u8 ky, .int .i64 ny, .string sy][i]? = some v → w1.cell? ⟨W.heap.size + 1, i, none⟩ = some v := fun i v h => by
    have := cells_new (W.alloc (.cells #[.int .u8 kx, .int .i64 nx, .string sx] 23)) [Value.int .u8 ky, .int .i64 ny, .string sy] 23 i
    rw [World.size_alloc] at this
    exact cell_later hw1 (this.trans h)
  have x0 := hx1 0 _ rfl; have x1 := hx1 1 _ rfl; have x2 := hx1 2 _ rfl
  have HY := Lib.hid hy1
  have hz := hw1.size
  simp only [World.size_alloc] at hz
  have lz1 : W.heap.size < w1.heap.size := by omega
  have lz2 : W.heap.size + 1 < w1.heap.size := by omega
  have HB1 := Lib.hid (after (below_alloc2 W _ _) hw1)
  clear hx1 hy1 hw1 hz
  generalize W.heap.size + 1 = g2 at *
  go_wp2_with fail
  (with_reducible refine (HT1.out _).mono ?_); rintro e w2 ⟨⟨a, ga, rfl⟩, hw2⟩
  have y0 := cell_later hw2 (HY.out 0 _ rfl); have y1 := cell_later hw2 (HY.out 1 _ rfl); have y2 := cell_later hw2 (HY.out 2 _ rfl)
  have hz2 := hw2.size
  have lz3 : g2 < w2.heap.size := by omega
  have HB2 := Lib.hid (after HB1.out hw2)
  have GA := Lib.hid ga
  clear hw2 ga
  go_wp2_with fail
  (with_reducible refine (HT2.out _).mono ?_); rintro e w3 ⟨⟨b, gb, rfl⟩, hw3⟩
  have GB := Lib.hid gb
  clear gb
  have f5 : Flds w3 w2.heap.size TV (fl6 a) := ((Flds.new w2 TV (fl6 a)).alloc (.cells (fl6 a).toArray TR)).later hw3
  have f6 : Flds w3 (w2.heap.size + 1) TR (fl6 a) := by
    have := Flds.new (w2.alloc (.cells (fl6 a).toArray TV)) TR (fl6 a)
    rw [World.size_alloc] at this
    exact this.later hw3
  have HB3 := Lib.hid (after HB2.out (after (below_alloc2 w2 (.cells (fl6 a).toArray TV) (.cells (fl6 a).toArray TR)) hw3))
  clear hw3
  have f5' := f5
  have f6' := f6
  have F5Y := Lib.hid ((f5.alloc (.cells (fl6 b).toArray TV)).alloc (.cells (fl6 b).toArray TR))
  have F6Y := Lib.hid ((f6.alloc (.cells (fl6 b).toArray TV)).alloc (.cells (fl6 b).toArray TR))
  have F7Y := Lib.hid ((Flds.new w3 TV (fl6 b)).alloc (.cells (fl6 b).toArray TR))
  have f8 := Flds.new (w3.alloc (.cells (fl6 b).toArray TV)) TR (fl6 b)
  rw [World.size_alloc] at f8
  have F8Y := Lib.hid f8
  have HBY := Lib.hid (after HB3.out (below_alloc2 w3 (.cells (fl6 b).toArray TV) (.cells (fl6 b).toArray TR)))
  clear f5 f6 f8
  obtain ⟨u50, u51, u52⟩ := f5'.three'
  have l5 := f5'.lt
  obtain ⟨u60, u61, u62⟩ := f6'.three'
  have l6 := f6'.lt
  clear f5' f6' x0 x1 x2 y0 y1 y2 HY lz1 lz2 lz3 hz2
  generalize w2.heap.size + 1 = g6 at *
  generalize w2.heap.size = g5 at *
  have HD := Lib.hid (fun W => do_any op a.k a.n b.k b.n a.s b.s W GA.out GB.out)
  have HR := Lib.hid (fun W => ref_do_any op a.k a.n b.k b.n a.s b.s W GA.out GB.out)
  have her := doV_err op a b
  have HER := Lib.hid her
  clear her
  generalize hvv : (doV op a b).1 = v at *
  generalize hee : (doV op a b).2 = er at *
  clear hvv hee
  go_wp2_with fail
  generalize (w3.alloc (.cells (fl6 b).toArray TV)).alloc (.cells (fl6 b).toArray TR) = Y at *
  generalize w3.heap.size + 1 = g8 at *
  generalize w3.heap.size = g7 at *
  (with_reducible refine (HD.out _).mono ?_); rintro e w4 ⟨rfl, hw4⟩
  have F5w4 := Lib.hid (F5Y.out.later hw4)
  have F6w4 := Lib.hid (F6Y.out.later hw4)
  have F7w4 := Lib.hid (F7Y.out.later hw4)
  have F8w4 := Lib.hid (F8Y.out.later hw4)
  have HBw4 := Lib.hid (after HBY.out hw4)
  clear hw4 u50 u51 u52 u60 u61 u62 l5 l6
  obtain ⟨u50, u51, u52⟩ := F5w4.out.three'
  have l5 := F5w4.out.lt
  obtain ⟨u60, u61, u62⟩ := F6w4.out.three'
  have l6 := F6w4.out.lt
  obtain ⟨u70, u71, u72⟩ := F7w4.out.three'
  have l7 := F7w4.out.lt
  obtain ⟨u80, u81, u82⟩ := F8w4.out.three'
  have l8 := F8w4.out.lt
  have FA := Lib.hid (Flds.new w4 TV (fl6 v))
  have F6A := Lib.hid (F6w4.out.alloc (.cells (fl6 v).toArray TV))
  have F8A := Lib.hid (F8w4.out.alloc (.cells (fl6 v).toArray TV))
  have HBA := Lib.hid (after HBw4.out (below_alloc1 w4 (.cells (fl6 v).toArray TV)))
  go_wp2_with fail
  generalize w4.alloc (.cells (fl6 v).toArray TV) = Z at *
  generalize w4.heap.size = g9 at *
  (with_reducible refine (HR.out _).mono ?_); rintro e w5 ⟨rfl, hw5⟩
  have F9 := FA.out.later hw5
  have HB5 := Lib.hid (after HBA.out hw5)
  have FY := Flds.new w5 TR (fl6 v)
  have F9Y := F9.alloc (.cells (fl6 v).toArray TR)
  have HBZ := Lib.hid (after HB5.out (below_alloc1 w5 (.cells (fl6 v).toArray TR)))
  clear hw5 u50 u51 u52 u60 u61 u62 u70 u71 u72 u80 u81 u82 l5 l6 l7 l8
  have e0 := veq_self v
  have e1 : veq6 v.k v.n v.s v.k v.n v.s = true := e0
  clear e0
  obtain ⟨u90, u91, u92⟩ := F9.three'
  have l9 := F9.lt
  clear F9 FY F9Y
  go_wp2
  go_ret
  exact ⟨ret_bool (by first | rfl | simp), HBZ.out⟩
end Go.Proofs.YtpkkhbmlclicfaaDoor.val
