/- The document's wide numbers, walked. -/
import Derived.Test.YtdobihnlegfkaaaBits
import Derived.Test.YtdobihnlegfkaaaWide
import Derived.Laws.Tables
import Derived.Outline
import Derived.RegionTactic
import Derived.LoopTactic
namespace Go.Proofs.Ytdobihnlegfkaaa.wb
set_option linter.unusedVariables false
open Go.RowKit

abbrev TB : TypeId := 47
theorem zero_any (w : World) : (zeroValue TB).run Try.prog w = .ok (.agg (rowF fun _ => false)) w := by rw [rowF_zero]; kernel_rfl
theorem size_any : (Try.prog.info? TB).map (·.size) = some 128 := by kernel_rfl

theorem row_cell {w : World} {g : Nat} {f : Nat → Bool} (h : w.heap[g]? = some (.cells (rowF f) TB (0, 0))) (i : Nat) (hi : i < 128) : w.cell? ⟨g, i, none⟩ = some (.bool (f i)) := (cell_of_row w g i _ _ _ h).trans (rowF_at f i hi)
theorem row_store {w : World} {g : Nat} {f : Nat → Bool} (h : w.heap[g]? = some (.cells (rowF f) TB (0, 0))) (i : Nat) (b : Bool) : (w.setCell ⟨g, i, none⟩ (.bool b)).heap[g]? = some (.cells (rowF fun j => if j = i then b else f j) TB (0, 0)) := by
  rw [heap_setCell_same w g i _ _ _ h, rowF_set]
theorem below_setRow {B : Nat} {w w' : World} (h : Below B w w') {g : Nat} (hg : B ≤ g) (cs : Array Value) : Below B w (w'.setRow g cs) :=
  h.trans ⟨rfl, rfl, rfl, by simp [World.setRow], fun k hk => setRow_other _ _ _ _ (by omega)⟩
theorem row_later {w : World} {g g5 : Nat} {o : Option Go.Obj} (h : w.heap[g]? = o) (hne : g ≠ g5) (i : Nat) (v : Value) (j : Nat) (u : Value) : ((w.setCell ⟨g5, i, none⟩ v).setCell ⟨g5, j, none⟩ u).heap[g]? = o := by
  rw [heap_setCell_other _ _ _ _ hne, heap_setCell_other _ _ _ _ hne, h]
set_option maxRecDepth 100000 in
set_option maxHeartbeats 2000000 in
theorem of_ref (h l : Nat) (hh : h < 2 ^ 64) (hl : l < 2 ^ 64) (hi : Int) (hhi : IntKind.u64.wrap hi = (h : Int)) (W : World) :
    Calls Try.prog 25 #[.int .i64 hi, .int .u64 (l : Int)] W fun e w' => e = .returned (.agg (row (2 ^ 64 * h + l))) ∧ Below W.heap.size W w' := by
  have hz := zero_any
  go_enter Try.func25, Try.ntmps25
  go_wp2
  have hA := Lib.hid (heap_alloc2_old W (.cells (rowF fun _ => false) TB) (.cells (rowF fun _ => false) TB))
  have hB := Lib.hid ((heap_alloc2_new W (.cells (rowF fun _ => false) TB) (.cells (rowF fun _ => false) TB)).trans (by rw [← ofF_zero h l]))
  have hS := Lib.hid (((Below.refl W.heap.size W).alloc (Nat.le_refl _) (.cells (rowF fun _ => false) TB)).alloc (by simp) (.cells (rowF fun _ => false) TB))
  generalize (W.alloc (.cells (rowF fun _ => false) TB)).alloc (.cells (rowF fun _ => false) TB) = w1 at *
  generalize hg5 : W.heap.size + 1 = g5 at *
  have HG := Lib.hid hg5
  clear hg5
  go_loopw [1, 6, 7] (fun lo hi i wr => ∃ k : Nat, k ≤ 64 ∧ i = .int .i64 k ∧ lo = .int .u64 ((l / 2 ^ k : Nat) : Int) ∧ hi = .int .u64 ((h / 2 ^ k : Nat) : Int) ∧ Hid (wr.heap[W.heap.size]? = some (.cells (rowF fun _ => false) TB (0, 0))) ∧ Hid (wr.heap[g5]? = some (.cells (rowF (ofF h l k)) TB (0, 0))) ∧ Hid (Below W.heap.size W wr)) (fun _ _ i _ => 64 - (intOf i).toNat)
  case atStart => exact ⟨0, by omega, rfl, by simp, by simp, hA, hB, hS⟩
  case round =>
    obtain ⟨k, hk, rfl, rfl, rfl, hA, hB, hS⟩ := hrel
    by_cases hlt : k < 64
    · have hl1 := half_bd l k hl
      have hh1 := half_bd h k hh
      have e1 := bit_i l k
      have e2 := bit_i h k
      have e3 := half_succ l k
      have e4 := half_succ h k
      generalize l / 2 ^ k = lk at *
      generalize h / 2 ^ k = hk' at *
      have c1 := row_cell hB.out k (by omega)
      have c2 := row_cell hB.out (64 + k) (by omega)
      have f1 := frozen_of_row wr g5 k _ _ hB.out
      have f2 := frozen_of_row wr g5 (64 + k) _ _ hB.out
      have nA := row_later hA.out (show W.heap.size ≠ g5 by have := HG.out; omega)
      go_wp2
      refine ⟨⟨k + 1, by omega, by go_num, ?_, ?_, Lib.hid ?_, Lib.hid ?_, Lib.hid ?_⟩, by simp [intOf]; omega⟩
      · rw [← e3]; congr 1
      · rw [← e4]; congr 1
      · exact nA k _ (64 + k) _
      · rw [row_store (row_store hB.out k _) (64 + k) _, ← ofF_succ _ _ _ hlt, rowF_set, rowF_set]
      · exact (hS.out.setCell (by have := HG.out; simp; omega) _).setCell (by have := HG.out; simp; omega) _
    · obtain rfl : k = 64 := by omega
      have e0 := ofF_end h l hl
      go_wp2_with (first | (refine wpList_load_row rfl _ _ rfl g5 rfl _ _ _ _ hB.out Try.underlying47 rfl (by rw [rowF_size]; exact size_any) ?_) | (refine wpList_store_row rfl _ _ _ rfl W.heap.size _ rfl rfl _ _ hA.out (by rw [rowF_size]; exact size_any) (by simp [rowF_size]) (rowF_one _) ?_))
      have hR := setRow_heap wr W.heap.size _ (rowF (ofF h l 64)) _ _ hA.out
      refine bodyPost_ret (v := .agg (rowF (ofF h l 64))) (results_cell_row Try.results25 _ _ W.heap.size _ _ _ _ (by rfl) hR Try.underlying47 rfl (by rw [rowF_size]; exact size_any)) (by rfl) ⟨by rw [e0], below_setRow hS.out (Nat.le_refl _) _⟩

theorem four (W : World) (x y u v : Array Value) : ∃ w1 : World, w1 = ((((W.alloc (.cells x TB)).alloc (.cells y TB)).alloc (.cells u TB)).alloc (.cells v TB)) ∧ w1.heap[W.heap.size]? = some (.cells x TB (0, 0)) ∧ w1.heap[W.heap.size + 1]? = some (.cells y TB (0, 0)) ∧ w1.heap[W.heap.size + 1 + 1]? = some (.cells u TB (0, 0)) ∧ w1.heap[W.heap.size + 1 + 1 + 1]? = some (.cells v TB (0, 0)) ∧ Below W.heap.size W w1 := by
  refine ⟨_, rfl, ?_, ?_, ?_, ?_, ((((Below.refl W.heap.size W).alloc (Nat.le_refl _) _).alloc (by simp) _).alloc (by simp; omega) _).alloc (by simp; omega) _⟩
  · rw [heap_alloc_old (h := by simp; try omega), heap_alloc_old (h := by simp; try omega), heap_alloc_old (h := by simp)]; exact heap_alloc_new _ _
  · rw [heap_alloc_old (h := by simp; try omega), heap_alloc_old (h := by simp)]; have := heap_alloc_new (W.alloc (.cells x TB)) (.cells y TB); rw [World.size_alloc] at this; exact this
  · rw [heap_alloc_old (h := by simp)]; have := heap_alloc_new ((W.alloc (.cells x TB)).alloc (.cells y TB)) (.cells u TB); rw [World.size_alloc, World.size_alloc] at this; exact this
  · have := heap_alloc_new (((W.alloc (.cells x TB)).alloc (.cells y TB)).alloc (.cells u TB)) (.cells v TB); rw [World.size_alloc, World.size_alloc, World.size_alloc] at this; exact this
theorem sum_store {w : World} {g a b k : Nat} (h : w.heap[g]? = some (.cells (rowF (sumF a b k)) TB (0, 0))) (v : Bool) (hv : v = (a + b).testBit k) : (w.setCell ⟨g, k, none⟩ (.bool v)).heap[g]? = some (.cells (rowF (sumF a b (k + 1))) TB (0, 0)) := by
  rw [row_store h, ← sumF_succ, rowF_set, hv]
theorem sum_bit' (a b k : Nat) (c : Nat) (p q : Bool) (hc : c = carry a b k) (hp : a.testBit k = p) (hq : b.testBit k = q) : (a + b).testBit k = ((c + p.toNat + q.toNat) % 2 == 1) := by subst hc hp hq; exact sum_bit a b k
theorem sum_carry' (a b k : Nat) (c : Nat) (p q : Bool) (hc : c = carry a b k) (hp : a.testBit k = p) (hq : b.testBit k = q) : carry a b (k + 1) = (c + p.toNat + q.toNat) / 2 := by subst hc hp hq; exact sum_carry a b k
set_option maxRecDepth 100000 in
set_option maxHeartbeats 4000000 in
theorem plus_ref (a b : Nat) (W : World) :
    Calls Try.prog 26 #[.agg (row a), .agg (row b)] W fun e w' => e = .returned (.agg (row (a + b))) ∧ Below W.heap.size W w' := by
  have hz := zero_any
  go_enter Try.func26, Try.ntmps26
  go_wp2
  obtain ⟨w1, e1, h2, h3, h4, h5, hS⟩ := four W (row a) (row b) (rowF fun _ => false) (rowF fun _ => false)
  rw [← e1]
  clear e1
  rw [← sumF_zero a b] at h5
  have HA := Lib.hid h2; have HB := Lib.hid h3; have HC := Lib.hid h4; have HD := Lib.hid h5; have HS := Lib.hid hS
  clear h2 h3 h4 h5 hS
  generalize hg3 : W.heap.size + 1 = g3 at *
  generalize hg4 : g3 + 1 = g4 at *
  generalize hg5 : g4 + 1 = g5 at *
  have HG3 := Lib.hid hg3; have HG4 := Lib.hid hg4; have HG5 := Lib.hid hg5
  clear hg3 hg4 hg5
  go_loopw [6, 7] (fun c i wr => ∃ k cc : Nat, k ≤ 128 ∧ cc ≤ 1 ∧ i = .int .i64 k ∧ c = .int .i64 cc ∧ Hid (cc = carry a b k) ∧ Hid (wr.heap[W.heap.size]? = some (.cells (row a) TB (0, 0))) ∧ Hid (wr.heap[g3]? = some (.cells (row b) TB (0, 0))) ∧ Hid (wr.heap[g4]? = some (.cells (rowF fun _ => false) TB (0, 0))) ∧ Hid (wr.heap[g5]? = some (.cells (rowF (sumF a b k)) TB (0, 0))) ∧ Hid (Below W.heap.size W wr)) (fun _ i _ => 128 - (intOf i).toNat)
  case atStart => exact ⟨0, 0, by omega, by omega, rfl, rfl, Lib.hid (by simp [carry, Nat.mod_one]), HA, HB, HC, HD, HS⟩
  case round =>
    obtain ⟨k, cc, hk, hcc, rfl, rfl, hcar, hA, hB, hC, hD, hS⟩ := hrel
    clear HA HB HC HD HS
    by_cases hlt : k < 128
    · have c1 := row_cell hA.out k hlt
      have c2 := row_cell hB.out k hlt
      have c3 := row_cell hD.out k hlt
      have f3 := frozen_of_row wr g5 k _ _ hD.out
      have n1 := heap_setCell_other wr ⟨g5, k, none⟩ W.heap.size
      have n2 := heap_setCell_other wr ⟨g5, k, none⟩ g3
      have n3 := heap_setCell_other wr ⟨g5, k, none⟩ g4
      have N1 := Lib.hid n1; have N2 := Lib.hid n2; have N3 := Lib.hid n3
      clear n1 n2 n3
      cases hp : a.testBit k
      all_goals cases hq : b.testBit k
      all_goals
        have SB := Lib.hid (sum_bit' a b k cc _ _ hcar.out hp hq)
        have SC := Lib.hid (sum_carry' a b k cc _ _ hcar.out hp hq)
        rw [hp] at c1
        rw [hq] at c2
        clear hp hq
        go_wp2
        refine ⟨⟨k + 1, carry a b (k + 1), by omega, carry_le _ _ _, by go_num, ?_, Lib.hid rfl, Lib.hid ?_, Lib.hid ?_, Lib.hid ?_, Lib.hid (sum_store hD.out _ ?_), Lib.hid (hS.out.setCell (by have := HG3.out; have := HG4.out; have := HG5.out; simp; omega) _)⟩, by simp [intOf]; omega⟩
        · rw [SC.out]; simp
        · rw [N1.out _ (by have := HG3.out; have := HG4.out; have := HG5.out; simp; omega)]; exact hA.out
        · rw [N2.out _ (by have := HG3.out; have := HG4.out; have := HG5.out; simp; omega)]; exact hB.out
        · rw [N3.out _ (by have := HG3.out; have := HG4.out; have := HG5.out; simp; omega)]; exact hC.out
        · rw [SB.out, Bool.eq_iff_iff, beq_iff_eq, beq_iff_eq]; simp; try omega
    · obtain rfl : k = 128 := by omega
      have e0 := sumF_end a b
      have HG4' := Lib.hid (show W.heap.size ≤ g4 by have := HG3.out; have := HG4.out; omega)
      go_wp2_with (first | (refine wpList_load_row rfl _ _ rfl g5 rfl _ _ _ _ hD.out Try.underlying47 rfl (by rw [rowF_size]; exact size_any) ?_) | (refine wpList_store_row rfl _ _ _ rfl g4 _ rfl rfl _ _ hC.out (by rw [rowF_size]; exact size_any) (by simp [rowF_size]) (rowF_one _) ?_))
      have hR := setRow_heap wr g4 _ (rowF (sumF a b 128)) _ _ hC.out
      refine bodyPost_ret (v := .agg (rowF (sumF a b 128))) (results_cell_row Try.results26 _ _ g4 _ _ _ _ (by rfl) hR Try.underlying47 rfl (by rw [rowF_size]; exact size_any)) (by rfl) ⟨by rw [e0], below_setRow hS.out HG4'.out _⟩

theorem one_of (W : World) (x : Array Value) : ∃ w1 : World, w1 = W.alloc (.cells x TB) ∧ w1.heap[W.heap.size]? = some (.cells x TB (0, 0)) ∧ Below W.heap.size W w1 :=
  ⟨_, rfl, heap_alloc_new _ _, (Below.refl W.heap.size W).alloc (Nat.le_refl _) _⟩
theorem half_bit (n k : Nat) (p : Bool) (h : n.testBit k = p) : n / 2 ^ k = 2 * (n / 2 ^ (k + 1)) + p.toNat := by subst h; exact half_step n k
set_option maxRecDepth 100000 in
set_option maxHeartbeats 4000000 in
theorem halves_ref (m : Nat) (W : World) :
    Calls Try.prog 32 #[.agg (row m)] W fun e w' => e = .returned (.tuple #[.int .i64 (wrap64 (hiN m)), .int .u64 (loN m)]) ∧ Below W.heap.size W w' := by
  go_enter Try.func32, Try.ntmps32
  go_wp2
  obtain ⟨w1, e1, h1, hS⟩ := one_of W (row m)
  rw [← e1]
  clear e1
  go_loop [4, 5, 6] (fun hi lo i => ∃ k : Nat, k ≤ 64 ∧ i = .int .i64 ((k : Int) - 1) ∧ hi = .int .u64 ((hiN m / 2 ^ k : Nat) : Int) ∧ lo = .int .u64 ((loN m / 2 ^ k : Nat) : Int)) (fun _ _ i => (intOf i + 1).toNat)
  case atStart => exact ⟨64, by omega, by simp, by rw [half_top _ (hiN_lt m)]; rfl, by rw [half_top _ (loN_lt m)]; rfl⟩
  case round =>
    obtain ⟨k, hk, rfl, rfl, rfl⟩ := hrel
    rcases k with _ | k
    · go_wp2
      go_ret2
      exact ⟨rfl, hS⟩
    · have c1 := row_cell h1 (64 + k) (by omega)
      have c2 := row_cell h1 k (by omega)
      rw [hi_bit m k (by omega)] at c1
      rw [lo_bit m k (by omega)] at c2
      have b1 := Nat.lt_of_le_of_lt (Nat.div_le_self (hiN m) (2 ^ k)) (hiN_lt m)
      have b2 := Nat.lt_of_le_of_lt (Nat.div_le_self (loN m) (2 ^ k)) (loN_lt m)
      cases hp : (hiN m).testBit k
      all_goals cases hq : (loN m).testBit k
      all_goals
        have e1 := half_bit _ _ _ hp
        have e2 := half_bit _ _ _ hq
        rw [hp] at c1
        rw [hq] at c2
        rw [e1] at b1
        rw [e2] at b2
        have E1 := Lib.hid e1; have E2 := Lib.hid e2
        clear hp hq e1 e2
        generalize hiN m / 2 ^ (k + 1) = x at *
        generalize loN m / 2 ^ (k + 1) = y at *
        simp at b1 b2
        go_wp2
        refine ⟨⟨k, by omega, rfl, ?_, ?_⟩, by simp [intOf]⟩
        · rw [E1.out]; simp
        · rw [E2.out]; simp
theorem ret_ib0 {a b : Int} {p q : Bool} (h : a = b) (k : p = q) : Ending.returned (.tuple #[.int .i64 a, .bool p]) = .returned (.tuple #[.int .i64 b, .bool q]) := by rw [h, k]
theorem below_drewN {B : Nat} {a w : World} (h : Below B a w) (n : Nat) : Below B a (w.drewN n) := ⟨h.os, h.tape, h.output, h.size, h.block⟩
/-- is it an int64? -/
def isIntN (m : Nat) : Bool := (List.range 64).all fun i => m.testBit (64 + i) == m.testBit 63
def intN (m : Nat) : Int := if isIntN m then wrap64 (loN m) else 0
theorem intN_no {m : Nat} (h : isIntN m = false) : intN m = 0 := by unfold intN; rw [h]; exact if_neg (by decide)
theorem intN_yes {m : Nat} (h : isIntN m = true) : intN m = wrap64 (loN m) := by unfold intN; rw [h]; exact if_pos rfl
theorem isIntN_no {m k : Nat} (hk : k < 128) (h64 : 64 ≤ k) (h : m.testBit k ≠ m.testBit 63) : isIntN m = false := by
  unfold isIntN; rw [← Bool.not_eq_true, List.all_eq_true]; intro hh
  have := hh (k - 64) (by simp; omega)
  rw [show 64 + (k - 64) = k by omega, beq_iff_eq] at this
  exact h this
theorem isIntN_yes {m : Nat} (h : ∀ j, 64 ≤ j → j < 128 → m.testBit j = m.testBit 63) : isIntN m = true := by
  unfold isIntN; rw [List.all_eq_true]; intro i hi; rw [beq_iff_eq]; exact h _ (by omega) (by simp at hi; omega)
set_option maxRecDepth 100000 in
set_option maxHeartbeats 4000000 in
theorem int_gen (m : Nat) (hiV loV : Int) (cs : Array Value) (hsz : cs.size = 128) (hat : ∀ i, i < 128 → cs[i]? = some (.bool (m.testBit i))) (hlo : isIntN m = true → intN m = wrap64 loV)
    (hh : ∀ W, Calls Try.prog 32 #[.agg cs] W fun e w' => e = .returned (.tuple #[.int .i64 hiV, .int .u64 loV]) ∧ Below W.heap.size W w') (W : World) :
    Calls Try.prog 28 #[.agg cs] W fun e w' => e = .returned (.tuple #[.int .i64 (intN m), .bool (isIntN m)]) ∧ Below W.heap.size W w' := by
  have HSZ := Lib.hid hsz; have HAT := Lib.hid hat; have HLO := Lib.hid hlo; have HH := Lib.hid hh
  clear hsz hat hlo hh
  go_enter Try.func28, Try.ntmps28
  go_wp2
  obtain ⟨w1, e1, h1, hS⟩ := one_of W cs
  rw [← e1]
  clear e1
  have c63 := (cell_of_row _ _ 63 _ _ _ h1).trans (HAT.out 63 (by omega))
  have H1 := Lib.hid h1; have HS := Lib.hid hS
  clear h1 hS
  go_loopw [4] (fun i wr => ∃ k : Nat, 64 ≤ k ∧ k ≤ 128 ∧ i = .int .i64 k ∧ Hid (∀ j, 64 ≤ j → j < k → m.testBit j = m.testBit 63) ∧ ∃ n, wr = w1.drewN n) (fun i _ => 128 - (intOf i).toNat)
  case atStart => exact ⟨64, by omega, by omega, rfl, Lib.hid (fun j _ _ => by omega), 0, rfl⟩
  case round =>
    obtain ⟨k, h64, hk, rfl, hE, n, rfl⟩ := hrel
    by_cases hlt : k < 128
    · have c1 := (cell_of_row _ _ k _ _ _ H1.out).trans (HAT.out k hlt)
      by_cases hp : m.testBit k = m.testBit 63
      · have hE' : ∀ j, 64 ≤ j → j < k + 1 → m.testBit j = m.testBit 63 := fun j h1 h2 => by
          by_cases e : j = k
          · subst e; exact hp
          · exact hE.out j h1 (by omega)
        rw [hp] at c1
        have HE := Lib.hid hE'
        clear hE' hp
        obtain ⟨p, hpp⟩ : ∃ p, p = m.testBit 63 := ⟨_, rfl⟩
        rw [← hpp] at c1 c63
        clear hpp
        go_wp2
        go_quiet (fail)
        go_wp2
        exact ⟨⟨k + 1, by omega, by omega, by go_num, HE, n + _, rfl⟩, by simp [intOf]; omega⟩
      · have HI := Lib.hid (isIntN_no hlt h64 hp)
        have hq : m.testBit k = !m.testBit 63 := by cases h1 : m.testBit k <;> cases h2 : m.testBit 63 <;> simp_all
        rw [hq] at c1
        clear hp hq
        obtain ⟨p, hpp⟩ : ∃ p, p = m.testBit 63 := ⟨_, rfl⟩
        rw [← hpp] at c1 c63
        clear hpp
        go_wp2
        go_quiet (fail)
        go_wp2
        go_ret2
        exact ⟨ret_ib0 (intN_no HI.out).symm HI.out.symm, below_drewN (below_drewN HS.out _) _⟩
    · obtain rfl : k = 128 := by omega
      have HI := Lib.hid (isIntN_yes hE.out)
      go_wp2_with (first | (refine wpList_load_row rfl _ _ rfl W.heap.size rfl _ _ _ _ H1.out Try.underlying47 rfl (by rw [HSZ.out]; exact size_any) ?_) | (go_at_call 32; ((with_reducible refine (HH.out _).mono ?_); rintro e w2 ⟨rfl, hb⟩)))
      go_ret2
      exact ⟨ret_ib0 (HLO.out HI.out).symm HI.out.symm, (below_drewN HS.out n).trans (hb.mono (below_drewN HS.out n).size)⟩
theorem int_ref (m : Nat) (W : World) :
    Calls Try.prog 28 #[.agg (row m)] W fun e w' => e = .returned (.tuple #[.int .i64 (intN m), .bool (isIntN m)]) ∧ Below W.heap.size W w' :=
  int_gen m _ _ (row m) (rowF_size _) (fun i hi => rowF_at _ i hi) (fun h => intN_yes h) (fun W => halves_ref m W) W
end Go.Proofs.Ytdobihnlegfkaaa.wb
