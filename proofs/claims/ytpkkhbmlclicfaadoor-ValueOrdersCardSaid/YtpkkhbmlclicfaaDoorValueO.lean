/- The law ValueOrders, walked. -/
import Derived.Test.YtpkkhbmlclicfaaDoorValueB
import Derived.Test.YtpkkhbmlclicfaaDoorObj
namespace Go.Proofs.YtpkkhbmlclicfaaDoor.val
set_option linter.unusedVariables false
open Go.RowKit

theorem run_eqlR (k n : Int) (s : ByteArray) (k' n' : Int) (s' : ByteArray) (w : World) : (binOp .eql 27 (ag3 k n s) (ag3 k' n' s')).run Tryd.prog w = .ok (.bool (veq6 k n s k' n' s')) w := by
  rw [run_eql_struct]
  go_simp
  unfold veq6
  by_cases h1 : k = k' <;> by_cases h2 : n = n' <;> by_cases h3 : s.toList = s'.toList <;> simp [h1, h2, h3]
attribute [local go_sem high] run_eqlV run_neqV run_eqlR

theorem cmpV_range (a b : V) : cmpV a b = -1 ∨ cmpV a b = 0 ∨ cmpV a b = 1 := by
  unfold cmpV cmpI cmpS
  (repeat' split) <;> simp
theorem cmpV_is (a b : V) (ha : Good a) (hb : Good b) : cmpV a b = if less a b = true then -1 else if less b a = true then 1 else 0 := by
  obtain ⟨h1, h2, h3⟩ := cmpV_iff a b ha hb
  rcases cmpV_range a b with h | h | h
  · rw [if_pos (h1.1 (by omega))]; exact h
  · rw [if_neg (fun e => by have := h1.2 e; omega), if_neg (fun e => by have := h3.2 e; omega)]; exact h
  · rw [if_neg (fun e => by have := h1.2 e; omega), if_pos (h3.1 (by omega))]; exact h
/-- the cells of a value, of whatever type -/
abbrev fl6 (v : V) : List Value := [.int .i64 v.k, .int .i64 v.n, .string v.s]
theorem _root_.Go.Proofs.YtpkkhbmlclicfaaDoor.Flds.three' {w : World} {g : Nat} {T : TypeId} {v : V} (h : Flds w g T (fl6 v)) : w.cell? ⟨g, 0, none⟩ = some (.int .i64 v.k) ∧ w.cell? ⟨g, 1, none⟩ = some (.int .i64 v.n) ∧ w.cell? ⟨g, 2, none⟩ = some (.string v.s) := ⟨h.cell 0, h.cell 1, h.cell 2⟩

set_option maxRecDepth 100000 in
set_option maxHeartbeats 4000000 in
theorem orders_walk (kx nx ky ny : Int) (sx sy : ByteArray) (hkx : 0 ≤ kx ∧ kx ≤ 255) (hky : 0 ≤ ky ∧ ky ≤ 255) (hnx : -9223372036854775808 ≤ nx ∧ nx ≤ 9223372036854775807) (hny : -9223372036854775808 ≤ ny ∧ ny ≤ 9223372036854775807) (hsx : sx.size ≤ maxLen) (hsy : sy.size ≤ maxLen)
    (m : Int) (W : World) (hm : W.cell? ⟨gMax, 0, none⟩ = some (.int .i64 m)) :
    Calls Tryd.prog 4 #[.agg #[.int .u8 kx, .int .i64 nx, .string sx], .agg #[.int .u8 ky, .int .i64 ny, .string sy]] W fun e w' => e = .returned (.bool true) ∧ Below W.heap.size W w' := by
  have HM := Lib.hid hm
  have HT1 := Lib.hid (told_any kx nx sx hkx hnx hsx)
  have HT2 := Lib.hid (told_any ky ny sy hky hny hsy)
  clear hm hkx hky hnx hny hsx hsy
  go_enter Tryd.func4, Tryd.ntmps4
  go_wp2_with fail
  (with_reducible refine (speaks m _ (cell_later (below_alloc2 _ _ _) HM.out)).mono ?_); rintro e w1 ⟨rfl, hw1⟩
  have hx1 := fun i v (h : [Value.int .u8 kx, .int .i64 nx, .string sx][i]? = some v) => cell_later hw1 (cell_later (below_alloc1 _ (.cells #[.int .u8 ky, .int .i64 ny, .string sy] 23)) ((cells_new W [.int .u8 kx, .int .i64 nx, .string sx] 23 i).trans h))
  have hy1 : ∀ i v, [Value.int .u8 ky, .int .i64 ny, .string sy][i]? = some v → w1.cell? ⟨W.heap.size + 1, i, none⟩ = some v := fun i v h => by
    have := cells_new (W.alloc (.cells #[.int .u8 kx, .int .i64 nx, .string sx] 23)) [Value.int .u8 ky, .int .i64 ny, .string sy] 23 i
    rw [World.size_alloc] at this
    exact cell_later hw1 (this.trans h)
  have x0 := hx1 0 _ rfl; have x1 := hx1 1 _ rfl; have x2 := hx1 2 _ rfl
  have HY := Lib.hid hy1
  have hz := hw1.size
  simp only [World.size_alloc] at hz
  have lz1 : W.heap.size < w1.heap.size := by omega
  have lz2 : W.heap.size + 1 < w1.heap.size := by omega
  have HB1 := Lib.hid (after (below_alloc2 W _ _) hw1)
  clear hx1 hy1 hw1 hz
  generalize W.heap.size + 1 = g2 at *
  go_wp2_with fail
  (with_reducible refine (HT1.out _).mono ?_); rintro e w2 ⟨⟨a, ga, rfl⟩, hw2⟩
  have y0 := cell_later hw2 (HY.out 0 _ rfl); have y1 := cell_later hw2 (HY.out 1 _ rfl); have y2 := cell_later hw2 (HY.out 2 _ rfl)
  have hz2 := hw2.size
  have lz3 : g2 < w2.heap.size := by omega
  have HB2 := Lib.hid (after HB1.out hw2)
  have GA := Lib.hid ga
  clear hw2 ga
  go_wp2_with fail
  (with_reducible refine (HT2.out _).mono ?_); rintro e w3 ⟨⟨b, gb, rfl⟩, hw3⟩
  have GB := Lib.hid gb
  clear gb
  have f5 : Flds w3 w2.heap.size TV (fl6 a) := ((Flds.new w2 TV (fl6 a)).alloc (.cells (fl6 a).toArray TR)).later hw3
  have f6 : Flds w3 (w2.heap.size + 1) TR (fl6 a) := by
    have := Flds.new (w2.alloc (.cells (fl6 a).toArray TV)) TR (fl6 a)
    rw [World.size_alloc] at this
    exact this.later hw3
  have HB3 := Lib.hid (after HB2.out (after (below_alloc2 w2 (.cells (fl6 a).toArray TV) (.cells (fl6 a).toArray TR)) hw3))
  clear hw3
  have f5' := f5
  have f6' := f6
  have F5Y := Lib.hid ((f5.alloc (.cells (fl6 b).toArray TV)).alloc (.cells (fl6 b).toArray TR))
  have F6Y := Lib.hid ((f6.alloc (.cells (fl6 b).toArray TV)).alloc (.cells (fl6 b).toArray TR))
  have F7Y := Lib.hid ((Flds.new w3 TV (fl6 b)).alloc (.cells (fl6 b).toArray TR))
  have f8 := Flds.new (w3.alloc (.cells (fl6 b).toArray TV)) TR (fl6 b)
  rw [World.size_alloc] at f8
  have F8Y := Lib.hid f8
  have HBY := Lib.hid (after HB3.out (below_alloc2 w3 (.cells (fl6 b).toArray TV) (.cells (fl6 b).toArray TR)))
  clear f5 f6 f8
  obtain ⟨u50, u51, u52⟩ := f5'.three'
  have l5 := f5'.lt
  obtain ⟨u60, u61, u62⟩ := f6'.three'
  have l6 := f6'.lt
  clear f5' f6' x0 x1 x2 y0 y1 y2 HY lz1 lz2 lz3 hz2
  generalize w2.heap.size + 1 = g6 at *
  generalize w2.heap.size = g5 at *
  obtain ⟨wv, p, q, r, hp, hq, hc1, hc2, hr, hk⟩ : ∃ (wv : Int) (p q r : Bool), (∀ W, Calls Tryd.prog 14 #[vv a, vv b] W fun e w' => e = .returned (.bool p) ∧ Below W.heap.size W w') ∧ (∀ W, Calls Tryd.prog 14 #[vv b, vv a] W fun e w' => e = .returned (.bool q) ∧ Below W.heap.size W w') ∧
      (∀ W, Calls Tryd.prog 15 #[vv a, vv b] W fun e w' => e = .returned (.int .i64 wv) ∧ Below W.heap.size W w') ∧ (∀ W, Calls Tryd.prog 15 #[vv b, vv a] W fun e w' => e = .returned (.int .i64 (-wv)) ∧ Below W.heap.size W w') ∧
      veq6 a.k a.n a.s b.k b.n b.s = r ∧ ((p = true ∧ q = false ∧ r = false ∧ wv = -1) ∨ (p = false ∧ q = true ∧ r = false ∧ wv = 1) ∨ (p = false ∧ q = false ∧ r = true ∧ wv = 0)) := by
    have ga := GA.out
    have gb := GB.out
    have c1 := cmpV_is a b ga gb
    have c2 := cmpV_is b a gb ga
    refine ⟨cmpV a b, less a b, less b a, veq a b, fun W => before_any a.k a.n b.k b.n a.s b.s ga gb W, fun W => before_any b.k b.n a.k a.n b.s a.s gb ga W, fun W => compare_any a.k a.n b.k b.n a.s b.s W, fun W => ?_, rfl, ?_⟩
    · have e : cmpV b a = -cmpV a b := by
        rw [c1, c2]
        cases h1 : less a b
        · cases h2 : less b a <;> simp
        · simp [less_asymm a b h1]
      rw [← e]
      exact compare_any b.k b.n a.k a.n b.s a.s W
    · cases h1 : less a b
      · cases h2 : less b a
        · right; right
          obtain rfl := less_total a b ga gb h1 h2
          exact ⟨rfl, rfl, veq_self a, by rw [c1, h1]; rfl⟩
        · right; left
          refine ⟨rfl, rfl, (veq_false a b).2 (fun e => by subst e; rw [h1] at h2; cases h2), by rw [c1, h1, h2]; rfl⟩
      · left
        refine ⟨rfl, less_asymm a b h1, (veq_false a b).2 (fun e => by subst e; rw [less_irrefl] at h1; cases h1), by rw [c1, h1]; rfl⟩
  have HP := Lib.hid hp; have HQ := Lib.hid hq; have HC1 := Lib.hid hc1; have HC2 := Lib.hid hc2
  clear hp hq hc1 hc2
  rcases hk with ⟨rfl, rfl, rfl, rfl⟩ | ⟨rfl, rfl, rfl, rfl⟩ | ⟨rfl, rfl, rfl, rfl⟩
  · skip
    go_wp2_with fail
    generalize (w3.alloc (.cells (fl6 b).toArray TV)).alloc (.cells (fl6 b).toArray TR) = Y at *
    generalize w3.heap.size + 1 = g8 at *
    generalize w3.heap.size = g7 at *
    (with_reducible refine (HP.out _).mono ?_); rintro e w4 ⟨rfl, hw4⟩
    have F5w4 := Lib.hid (F5Y.out.later hw4)
    have F6w4 := Lib.hid (F6Y.out.later hw4)
    have F7w4 := Lib.hid (F7Y.out.later hw4)
    have F8w4 := Lib.hid (F8Y.out.later hw4)
    have HBw4 := Lib.hid (after HBY.out hw4)
    clear hw4 u50 u51 u52 u60 u61 u62 l5 l6
    obtain ⟨u50, u51, u52⟩ := F5w4.out.three'
    have l5 := F5w4.out.lt
    obtain ⟨u60, u61, u62⟩ := F6w4.out.three'
    have l6 := F6w4.out.lt
    obtain ⟨u70, u71, u72⟩ := F7w4.out.three'
    have l7 := F7w4.out.lt
    obtain ⟨u80, u81, u82⟩ := F8w4.out.three'
    have l8 := F8w4.out.lt
    go_wp2_with fail
    (with_reducible refine (HQ.out _).mono ?_); rintro e w5 ⟨rfl, hw5⟩
    have F5w5 := Lib.hid (F5w4.out.later hw5)
    have F6w5 := Lib.hid (F6w4.out.later hw5)
    have F7w5 := Lib.hid (F7w4.out.later hw5)
    have F8w5 := Lib.hid (F8w4.out.later hw5)
    have HBw5 := Lib.hid (after HBw4.out hw5)
    clear hw5
    obtain ⟨u50, u51, u52⟩ := F5w5.out.three'
    have l5 := F5w5.out.lt
    obtain ⟨u60, u61, u62⟩ := F6w5.out.three'
    have l6 := F6w5.out.lt
    obtain ⟨u70, u71, u72⟩ := F7w5.out.three'
    have l7 := F7w5.out.lt
    obtain ⟨u80, u81, u82⟩ := F8w5.out.three'
    have l8 := F8w5.out.lt
    go_wp2_with fail
    (with_reducible refine (HC1.out _).mono ?_); rintro e w6 ⟨rfl, hw6⟩
    have F5w6 := Lib.hid (F5w5.out.later hw6)
    have F6w6 := Lib.hid (F6w5.out.later hw6)
    have F7w6 := Lib.hid (F7w5.out.later hw6)
    have F8w6 := Lib.hid (F8w5.out.later hw6)
    have HBw6 := Lib.hid (after HBw5.out hw6)
    clear hw6
    obtain ⟨u50, u51, u52⟩ := F5w6.out.three'
    have l5 := F5w6.out.lt
    obtain ⟨u60, u61, u62⟩ := F6w6.out.three'
    have l6 := F6w6.out.lt
    obtain ⟨u70, u71, u72⟩ := F7w6.out.three'
    have l7 := F7w6.out.lt
    obtain ⟨u80, u81, u82⟩ := F8w6.out.three'
    have l8 := F8w6.out.lt
    go_wp2_with fail
    (with_reducible refine (HC2.out _).mono ?_); rintro e w7 ⟨rfl, hw7⟩
    have F5w7 := Lib.hid (F5w6.out.later hw7)
    have F6w7 := Lib.hid (F6w6.out.later hw7)
    have F7w7 := Lib.hid (F7w6.out.later hw7)
    have F8w7 := Lib.hid (F8w6.out.later hw7)
    have HBw7 := Lib.hid (after HBw6.out hw7)
    clear hw7
    obtain ⟨u50, u51, u52⟩ := F5w7.out.three'
    have l5 := F5w7.out.lt
    obtain ⟨u60, u61, u62⟩ := F6w7.out.three'
    have l6 := F6w7.out.lt
    obtain ⟨u70, u71, u72⟩ := F7w7.out.three'
    have l7 := F7w7.out.lt
    obtain ⟨u80, u81, u82⟩ := F8w7.out.three'
    have l8 := F8w7.out.lt
    go_wp2_with fail
    go_ret
    exact ⟨ret_bool (by first | rfl | simp), HBw7.out⟩
  · skip
    go_wp2_with fail
    generalize (w3.alloc (.cells (fl6 b).toArray TV)).alloc (.cells (fl6 b).toArray TR) = Y at *
    generalize w3.heap.size + 1 = g8 at *
    generalize w3.heap.size = g7 at *
    (with_reducible refine (HP.out _).mono ?_); rintro e w4 ⟨rfl, hw4⟩
    have F5w4 := Lib.hid (F5Y.out.later hw4)
    have F6w4 := Lib.hid (F6Y.out.later hw4)
    have F7w4 := Lib.hid (F7Y.out.later hw4)
    have F8w4 := Lib.hid (F8Y.out.later hw4)
    have HBw4 := Lib.hid (after HBY.out hw4)
    clear hw4 u50 u51 u52 u60 u61 u62 l5 l6
    obtain ⟨u50, u51, u52⟩ := F5w4.out.three'
    have l5 := F5w4.out.lt
    obtain ⟨u60, u61, u62⟩ := F6w4.out.three'
    have l6 := F6w4.out.lt
    obtain ⟨u70, u71, u72⟩ := F7w4.out.three'
    have l7 := F7w4.out.lt
    obtain ⟨u80, u81, u82⟩ := F8w4.out.three'
    have l8 := F8w4.out.lt
    go_wp2_with fail
    (with_reducible refine (HQ.out _).mono ?_); rintro e w5 ⟨rfl, hw5⟩
    have F5w5 := Lib.hid (F5w4.out.later hw5)
    have F6w5 := Lib.hid (F6w4.out.later hw5)
    have F7w5 := Lib.hid (F7w4.out.later hw5)
    have F8w5 := Lib.hid (F8w4.out.later hw5)
    have HBw5 := Lib.hid (after HBw4.out hw5)
    clear hw5
    obtain ⟨u50, u51, u52⟩ := F5w5.out.three'
    have l5 := F5w5.out.lt
    obtain ⟨u60, u61, u62⟩ := F6w5.out.three'
    have l6 := F6w5.out.lt
    obtain ⟨u70, u71, u72⟩ := F7w5.out.three'
    have l7 := F7w5.out.lt
    obtain ⟨u80, u81, u82⟩ := F8w5.out.three'
    have l8 := F8w5.out.lt
    go_wp2_with fail
    (with_reducible refine (HC1.out _).mono ?_); rintro e w6 ⟨rfl, hw6⟩
    have F5w6 := Lib.hid (F5w5.out.later hw6)
    have F6w6 := Lib.hid (F6w5.out.later hw6)
    have F7w6 := Lib.hid (F7w5.out.later hw6)
    have F8w6 := Lib.hid (F8w5.out.later hw6)
    have HBw6 := Lib.hid (after HBw5.out hw6)
    clear hw6
    obtain ⟨u50, u51, u52⟩ := F5w6.out.three'
    have l5 := F5w6.out.lt
    obtain ⟨u60, u61, u62⟩ := F6w6.out.three'
    have l6 := F6w6.out.lt
    obtain ⟨u70, u71, u72⟩ := F7w6.out.three'
    have l7 := F7w6.out.lt
    obtain ⟨u80, u81, u82⟩ := F8w6.out.three'
    have l8 := F8w6.out.lt
    go_wp2_with fail
    (with_reducible refine (HC2.out _).mono ?_); rintro e w7 ⟨rfl, hw7⟩
    have F5w7 := Lib.hid (F5w6.out.later hw7)
    have F6w7 := Lib.hid (F6w6.out.later hw7)
    have F7w7 := Lib.hid (F7w6.out.later hw7)
    have F8w7 := Lib.hid (F8w6.out.later hw7)
    have HBw7 := Lib.hid (after HBw6.out hw7)
    clear hw7
    obtain ⟨u50, u51, u52⟩ := F5w7.out.three'
    have l5 := F5w7.out.lt
    obtain ⟨u60, u61, u62⟩ := F6w7.out.three'
    have l6 := F6w7.out.lt
    obtain ⟨u70, u71, u72⟩ := F7w7.out.three'
    have l7 := F7w7.out.lt
    obtain ⟨u80, u81, u82⟩ := F8w7.out.three'
    have l8 := F8w7.out.lt
    go_wp2_with fail
    go_ret
    exact ⟨ret_bool (by first | rfl | simp), HBw7.out⟩
  · skip
    go_wp2_with fail
    generalize (w3.alloc (.cells (fl6 b).toArray TV)).alloc (.cells (fl6 b).toArray TR) = Y at *
    generalize w3.heap.size + 1 = g8 at *
    generalize w3.heap.size = g7 at *
    (with_reducible refine (HP.out _).mono ?_); rintro e w4 ⟨rfl, hw4⟩
    have F5w4 := Lib.hid (F5Y.out.later hw4)
    have F6w4 := Lib.hid (F6Y.out.later hw4)
    have F7w4 := Lib.hid (F7Y.out.later hw4)
    have F8w4 := Lib.hid (F8Y.out.later hw4)
    have HBw4 := Lib.hid (after HBY.out hw4)
    clear hw4 u50 u51 u52 u60 u61 u62 l5 l6
    obtain ⟨u50, u51, u52⟩ := F5w4.out.three'
    have l5 := F5w4.out.lt
    obtain ⟨u60, u61, u62⟩ := F6w4.out.three'
    have l6 := F6w4.out.lt
    obtain ⟨u70, u71, u72⟩ := F7w4.out.three'
    have l7 := F7w4.out.lt
    obtain ⟨u80, u81, u82⟩ := F8w4.out.three'
    have l8 := F8w4.out.lt
    go_wp2_with fail
    (with_reducible refine (HQ.out _).mono ?_); rintro e w5 ⟨rfl, hw5⟩
    have F5w5 := Lib.hid (F5w4.out.later hw5)
    have F6w5 := Lib.hid (F6w4.out.later hw5)
    have F7w5 := Lib.hid (F7w4.out.later hw5)
    have F8w5 := Lib.hid (F8w4.out.later hw5)
    have HBw5 := Lib.hid (after HBw4.out hw5)
    clear hw5
    obtain ⟨u50, u51, u52⟩ := F5w5.out.three'
    have l5 := F5w5.out.lt
    obtain ⟨u60, u61, u62⟩ := F6w5.out.three'
    have l6 := F6w5.out.lt
    obtain ⟨u70, u71, u72⟩ := F7w5.out.three'
    have l7 := F7w5.out.lt
    obtain ⟨u80, u81, u82⟩ := F8w5.out.three'
    have l8 := F8w5.out.lt
    go_wp2_with fail
    (with_reducible refine (HC1.out _).mono ?_); rintro e w6 ⟨rfl, hw6⟩
    have F5w6 := Lib.hid (F5w5.out.later hw6)
    have F6w6 := Lib.hid (F6w5.out.later hw6)
    have F7w6 := Lib.hid (F7w5.out.later hw6)
    have F8w6 := Lib.hid (F8w5.out.later hw6)
    have HBw6 := Lib.hid (after HBw5.out hw6)
    clear hw6
    obtain ⟨u50, u51, u52⟩ := F5w6.out.three'
    have l5 := F5w6.out.lt
    obtain ⟨u60, u61, u62⟩ := F6w6.out.three'
    have l6 := F6w6.out.lt
    obtain ⟨u70, u71, u72⟩ := F7w6.out.three'
    have l7 := F7w6.out.lt
    obtain ⟨u80, u81, u82⟩ := F8w6.out.three'
    have l8 := F8w6.out.lt
    go_wp2_with fail
    (with_reducible refine (HC2.out _).mono ?_); rintro e w7 ⟨rfl, hw7⟩
    have F5w7 := Lib.hid (F5w6.out.later hw7)
    have F6w7 := Lib.hid (F6w6.out.later hw7)
    have F7w7 := Lib.hid (F7w6.out.later hw7)
    have F8w7 := Lib.hid (F8w6.out.later hw7)
    have HBw7 := Lib.hid (after HBw6.out hw7)
    clear hw7
    obtain ⟨u50, u51, u52⟩ := F5w7.out.three'
    have l5 := F5w7.out.lt
    obtain ⟨u60, u61, u62⟩ := F6w7.out.three'
    have l6 := F6w7.out.lt
    obtain ⟨u70, u71, u72⟩ := F7w7.out.three'
    have l7 := F7w7.out.lt
    obtain ⟨u80, u81, u82⟩ := F8w7.out.three'
    have l8 := F8w7.out.lt
    go_wp2_with fail
    go_ret
    exact ⟨ret_bool (by first | rfl | simp), HBw7.out⟩

end Go.Proofs.YtpkkhbmlclicfaaDoor.val
