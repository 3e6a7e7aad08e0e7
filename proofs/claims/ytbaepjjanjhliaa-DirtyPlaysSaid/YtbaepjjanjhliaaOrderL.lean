/- The list of stamps: tags laid. -/
import Derived.Test.YtbaepjjanjhliaaOrderA
namespace Go.Proofs.Ytbaepjjanjhliaa.ord
set_option linter.unusedVariables false
open Go.RowKit arK
variable {own : Nat → Prop} {bl b : Nat} {s s' : Ar Lk} {w w' : World}

theorem getAt_put (s : Ar Lk) (i : Int) (x : Lk) (hi : s.has i = true) : getAt (s.put i x) i = x := by
  obtain ⟨h0, hl, y, hy⟩ := Ar.has_iff.1 hi
  unfold getAt
  rw [has_put s i x hi i, hi, if_pos rfl]
  unfold Ar.put
  rw [List.getElem?_set_self hl]; rfl
theorem has_nat {s : Ar Lk} {i : Int} (hi : s.has i = true) : 0 ≤ i := (Ar.has_iff.1 hi).1
theorem getAt_put_ne (s : Ar Lk) (i : Int) (x : Lk) (hi : s.has i = true) (j : Int) (hne : j ≠ i) : getAt (s.put i x) j = getAt s j := by
  unfold getAt
  rw [has_put s i x hi j]
  by_cases hj : s.has j = true
  · rw [if_pos hj, if_pos hj]
    have h1 := has_nat hi
    have h2 := has_nat hj
    unfold Ar.put
    rw [List.getElem?_set_ne (by omega)]
  · rw [if_neg hj, if_neg hj]
/-- tags laid along some stamps, at even steps -/
def layL : Ar Lk → List Int → Int → Int → Ar Lk
  | s, [], v, d => s
  | s, i :: is, v, d => layL (s.put i { getAt s i with t := v }) is (v + d) d
/-- stamps that follow one another -/
structure Chain (s : Ar Lk) (is : List Int) : Prop where
  has : ∀ (k : Nat) (i : Int), is[k]? = some i → s.has i = true
  next : ∀ (k : Nat) (i j : Int), is[k]? = some i → is[k + 1]? = some j → (getAt s i).n = j
  nodup : is.Nodup
theorem layL_has : ∀ (is : List Int) (s : Ar Lk) (v d : Int), (∀ i ∈ is, s.has i = true) → ∀ j, (layL s is v d).has j = s.has j
  | [], s, v, d, _, j => rfl
  | i :: is, s, v, d, h, j => by
    have hi := h i (by simp)
    unfold layL
    rw [layL_has is _ _ _ (fun k hk => by rw [has_put _ _ _ hi]; exact h k (by simp [hk])) j, has_put _ _ _ hi]
theorem layL_get : ∀ (is : List Int) (s : Ar Lk) (v d : Int), (∀ i ∈ is, s.has i = true) → ∀ j, j ∉ is → getAt (layL s is v d) j = getAt s j
  | [], s, v, d, _, j, _ => rfl
  | i :: is, s, v, d, h, j, hj => by
    have hi := h i (by simp)
    simp only [List.mem_cons, not_or] at hj
    unfold layL
    rw [layL_get is _ _ _ (fun k hk => by rw [has_put _ _ _ hi]; exact h k (by simp [hk])) j hj.2, getAt_put_ne _ _ _ hi _ hj.1]
theorem layL_snoc : ∀ (is : List Int) (s : Ar Lk) (v d : Int) (i : Int), layL s (is ++ [i]) v d = (layL s is v d).put i { getAt (layL s is v d) i with t := v + is.length * d }
  | [], s, v, d, i => by simp [layL]
  | j :: is, s, v, d, i => by
    have ih := layL_snoc is (s.put j { getAt s j with t := v }) (v + d) d i
    simp only [List.cons_append, layL]
    rw [ih]
    have e : v + d + (is.length : Int) * d = v + ((is.length + 1 : Nat) : Int) * d := by
      rw [show ((is.length + 1 : Nat) : Int) = (is.length : Int) + 1 by omega, Int.add_mul, Int.one_mul]; omega
    rw [e]; rfl
/-- what is at each of them then -/
theorem layL_at : ∀ (is : List Int) (s : Ar Lk) (v d : Int), (∀ i ∈ is, s.has i = true) → is.Nodup → ∀ (k : Nat) (i : Int), is[k]? = some i → getAt (layL s is v d) i = { getAt s i with t := v + k * d }
  | [], s, v, d, _, _, k, i, hk => by simp at hk
  | j :: is, s, v, d, h, hn, k, i, hk => by
    have hj := h j (by simp)
    rw [List.nodup_cons] at hn
    have hh : ∀ i ∈ is, (s.put j { getAt s j with t := v }).has i = true := fun k hk => by rw [has_put _ _ _ hj]; exact h k (by simp [hk])
    rcases k with _ | k
    · simp at hk
      subst hk
      unfold layL
      rw [layL_get is _ _ _ hh _ hn.1, getAt_put _ _ _ hj]
      simp
    · simp at hk
      have hne : i ≠ j := fun e => hn.1 (e ▸ List.mem_of_getElem? hk)
      unfold layL
      rw [layL_at is _ _ _ hh hn.2 k i hk, getAt_put_ne _ _ _ hj _ hne]
      have e : v + d + (k : Int) * d = v + ((k + 1 : Nat) : Int) * d := by
        rw [show ((k + 1 : Nat) : Int) = (k : Int) + 1 by omega, Int.add_mul, Int.one_mul]; omega
      rw [e]
theorem mul_step {k n : Nat} {d : Int} (hd : 0 ≤ d) (hk : k ≤ n) : 0 ≤ (k : Int) * d ∧ (k : Int) * d ≤ (n : Int) * d :=
  ⟨Int.mul_nonneg (by omega) hd, Int.mul_le_mul_of_nonneg_right (by omega) hd⟩
set_option maxRecDepth 100000 in
set_option maxHeartbeats 4000000 in
theorem lay_l (h : LI own bl b s w) (is : List Int) (hc : Chain s is) (i : Int) (hi : is[0]? = some i) (low d : Int) (h0 : 0 ≤ low) (hd : 0 ≤ d) (htop : low + is.length * d ≤ 4611686018427387904) (hlen : is.length ≤ 1048576) :
    Calls Try.prog 67 #[.pointer (some ⟨bl, 0, none⟩), .int .i64 i, .int .i64 (is.length : Int), .int .i64 low, .int .i64 d] w fun e w' => (∃ v, e = .returned v) ∧ LI own bl b (layL s is low d) w' ∧ Only own w w' := by
  have HC := Lib.hid hc
  have H0 := Lib.hid hi
  have HI := Lib.hid h
  clear h hc hi
  go_enter Try.func67, Try.ntmps67
  go_wp2
  go_loopw [1, 14] (fun sv iv wr => ∃ (k : Nat) (c : Int), k ≤ is.length ∧ iv = .int .i64 k ∧ sv = .int .i64 c ∧ Hid (k < is.length → is[k]? = some c) ∧ Hid (LI own bl b (layL s (is.take k) low d) wr) ∧ Hid (Only own w wr)) (fun _ iv _ => is.length - (intOf iv).toNat)
  case atStart => exact ⟨0, i, by omega, rfl, rfl, Lib.hid (fun _ => H0.out), Lib.hid HI.out, Lib.hid (Only.refl _ _)⟩
  case round =>
    obtain ⟨k, c, hk, rfl, rfl, hck, hL, hO⟩ := hrel
    by_cases hlt : k < is.length
    · have hlt' : (k : Int) < (is.length : Int) := by omega
      have hkc := hck.out hlt
      have hall : ∀ j ∈ is, s.has j = true := fun j hj => by obtain ⟨m, hm⟩ := List.getElem?_of_mem hj; exact HC.out.has m j hm
      have hallk : ∀ j ∈ is.take k, s.has j = true := fun j hj => hall j (List.mem_of_mem_take hj)
      have hnot : c ∉ is.take k := fun hm => by
        obtain ⟨m, hm'⟩ := List.getElem?_of_mem hm
        rw [List.getElem?_take] at hm'
        split at hm'
        · rename_i hmk
          have := (List.getElem?_inj (by omega) HC.out.nodup).1 (hm'.trans hkc.symm)
          omega
        · cases hm'
      have hhas : (layL s (is.take k) low d).has c = true := by rw [layL_has _ _ _ _ hallk]; exact HC.out.has k c hkc
      have hget := layL_get (is.take k) s low d hallk c hnot
      have hsnoc : layL s (is.take (k + 1)) low d = (layL s (is.take k) low d).put c { getAt s c with t := low + k * d } := by
        rw [List.take_add_one, hkc]
        show layL s (is.take k ++ [c]) low d = _
        rw [layL_snoc, hget, List.length_take, Nat.min_eq_left hk]
      have hnx : ∀ j, is[k + 1]? = some j → (getAt s c).n = j := fun j hj => HC.out.next k c j hkc hj
      have HG := hL.out.get c
      rw [hget, hhas] at HG
      have HS := fun w' hb => LI.set (w := w') (hL.out.later hb) c { getAt s c with t := low + k * d }
      rw [hhas, if_pos rfl, ← hsnoc] at HS
      have hm1 := mul_step (k := k) (n := is.length) hd hk
      have m1 := hm1.1
      have m2 : low + (k : Int) * d ≤ 4611686018427387904 := by omega
      have c0 := hL.out.cell
      have l0 := hL.out.lt
      have HGH := Lib.hid HG; have HSH := Lib.hid HS; have HNX := Lib.hid hnx
      clear HG HS hnx hkc hall hallk hnot hhas hget hsnoc hm1
      generalize getAt s c = x at *
      go_wp2_with fail
      (with_reducible refine HGH.out.mono ?_); rintro e w1 ⟨rfl, hb1⟩
      have cl := cell_later hb1 c0
      have hB := Lib.hid (after hb1 ((Below.refl w1.heap.size w1).alloc (Nat.le_refl _) (.cells #[.int .i64 x.p, .int .i64 x.n, .int .i64 (low + (k : Int) * d)] TL)) hb1.size)
      have cy := cell_later ((Below.refl w1.heap.size w1).alloc (Nat.le_refl _) (.cells #[.int .i64 x.p, .int .i64 x.n, .int .i64 (low + (k : Int) * d)] TL)) cl
      have F11 := Flds.new w1 TL [.int .i64 x.p, .int .i64 x.n, .int .i64 (low + (k : Int) * d)]
      have l11 := F11.lt
      have q0 := F11.cell 0; have q1 := F11.cell 1; have q2 := F11.cell 2
      simp only [List.getElem?_cons_zero, List.getElem?_cons_succ] at q0 q1 q2
      have hnew : ¬ own w1.heap.size := fun ho => by have := hL.out.is.lt _ ho; have := hb1.size; omega
      have HNEW := Lib.hid hnew; have HF := Lib.hid F11
      clear cl F11 hnew hb1
      go_upto_region 5 with fail
      have HY : Hid (∀ X : World, Below wr.heap.size wr X → Calls Try.prog 64 #[.pointer (some ⟨b, 0, none⟩), .int .i64 c, .agg #[.int .i64 x.p, .int .i64 x.n, .int .i64 (low + (k : Int) * d)]] X fun e w' => e = .returned (.bool true) ∧ LI own bl b (layL s (is.take (k + 1)) low d) w' ∧ Only own X w') := Lib.hid (fun X hX => HSH.out X hX)
      clear HSH HGH
      generalize w1.alloc (.cells #[.int .i64 x.p, .int .i64 x.n, .int .i64 (low + (k : Int) * d)] TL) = Y at *
      generalize w1.heap.size = g11 at *
      go_region_with (go_at_call 64; refine (HY.out _ (by first | exact hB.out.drew | exact hB.out)).mono ?_; rintro e w2 ⟨rfl, hL2, hO2⟩; have z1 : w2.cell? ⟨g11, 1, none⟩ = some (.int .i64 x.n) := (Flds.only (w := Y.drew) HF.out hO2 HNEW.out).cell 1; have hL2 := Lib.hid hL2; have hO2 := Lib.hid hO2)
      all_goals go_wp2
      all_goals
        refine ⟨⟨k + 1, x.n, by omega, by go_num, rfl, Lib.hid (fun hk1 => ?_), hL2, Lib.hid ((hO.out.trans (Only.of_below hB.out.drew) (fun _ _ h => h)).trans hO2.out (fun _ _ h => h))⟩, by simp [intOf]; omega⟩
        have e := List.getElem?_eq_getElem hk1
        rw [HNX.out _ e]; exact e
    · obtain rfl : k = is.length := by omega
      rw [List.take_of_length_le (Nat.le_refl _)] at hL
      go_wp2
      exact bodyPost_end (v := .tuple #[]) (by simp [results, Try.results67]) (by rfl) ⟨⟨_, rfl⟩, hL.out, hO.out⟩
end Go.Proofs.Ytbaepjjanjhliaa.ord
