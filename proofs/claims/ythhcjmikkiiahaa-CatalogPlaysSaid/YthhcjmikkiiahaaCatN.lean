/- The document's catalog: whether a view uses a table; two lists of names; walked. -/
import Derived.Test.YthhcjmikkiiahaaCatM
namespace Go.Proofs.Ythhcjmikkiiahaa.cat
set_option linter.unusedVariables false
open Go.RowKit Go.WideShapes Go.MapKept
theorem below_drewN' {B : Nat} {a w : World} (h : Below B a w) (n : Nat) : Below B a (w.drewN n) := ⟨h.os, h.tape, h.output, h.size, h.block⟩
theorem str_at {w : World} {a : Option Addr} {cap n : Nat} {l : List ByteArray} {k : Nat} {x : ByteArray} (hv : Row w (.slice a n cap) 1 n (l.map Value.string)) (hk : k < n) (hx : l[k]? = some x) :
    ∃ b off, a = some ⟨b, off, none⟩ ∧ ∀ wq, Below w.heap.size w wq → wq.cell? ⟨b, off + k, none⟩ = some (.string x) ∧ b < wq.heap.size := by
  obtain ⟨b, off, cap', ea, hcell⟩ := hv.pos (by omega)
  simp only [Value.slice.injEq] at ea
  obtain ⟨rfl, -, rfl⟩ := ea
  refine ⟨b, off, rfl, fun wq hb => ?_⟩
  have c0 := hcell k (by omega)
  rw [List.getElem?_map, hx] at c0
  have g0 := cell_later hb c0
  exact ⟨g0, World.block_lt_of_cell? _ _ g0⟩
set_option maxRecDepth 100000 in
set_option maxHeartbeats 2000000 in
theorem ruses_any (nm : ByteArray) (a : Option Addr) (n c : Nat) (us : List ByteArray) (hn : us.length = n) (hn1 : n ≤ 1000000) (k : ByteArray) (w : World) (hr : Row w (.slice a n c) 1 n (us.map Value.string)) :
    Calls Try.prog 67 #[.agg #[.string nm, .slice a n c], .string k] w fun en w' => en = .returned (.bool (isIn k us)) ∧ Below w.heap.size w w' := by
  obtain ⟨W1, hW1⟩ : ∃ W, w.alloc (.cells #[.string nm, .slice a n c] TRv) = W := ⟨_, rfl⟩
  obtain ⟨g1, hg1⟩ : ∃ g, w.heap.size = g := ⟨_, rfl⟩
  have hb1 : Below w.heap.size w W1 := by rw [← hW1]; exact (Below.refl _ _).alloc (Nat.le_refl _) _
  have hf1 : Flds W1 g1 TRv [.string nm, .slice a n c] := by rw [← hW1, ← hg1]; exact Flds.new w _ _
  have HF := Lib.hid (fun (W : World) (hb : Below W1.heap.size W1 W) => And.intro ((hf1.later hb).cell 0) (And.intro ((hf1.later hb).cell 1) (hf1.later hb).lt))
  simp only [List.getElem?_cons_zero, List.getElem?_cons_succ] at HF
  have HR := Lib.hid (hr.later hb1)
  have HN := Lib.hid hn
  have HB1 := Lib.hid hb1
  have n0 : (0 : Int) ≤ (n : Int) := by omega
  have n1 : (n : Int) ≤ 1000000 := by omega
  clear hr hn hb1 hf1
  go_enter Try.func67, Try.ntmps67
  go_upto_region 1 with fail
  try rw [hW1, hg1]
  clear hW1 hg1
  go_wp2_with fail
  go_loopw [5] (fun iv wr => ∃ j : Nat, iv = .int .i64 (j : Int) ∧ j ≤ n ∧ Hid (Below W1.heap.size W1 wr) ∧ Hid (∀ q : Nat, q < j → us[q]? ≠ some k)) (fun iv _ => n - (intOf iv).toNat)
  case atStart => exact ⟨0, rfl, Nat.zero_le _, Lib.hid (Below.refl _ _), Lib.hid (fun q hq => by omega)⟩
  case round =>
    obtain ⟨j, rfl, hj, HB, HNO⟩ := hrel
    have j0 : (0 : Int) ≤ (j : Int) := by omega
    obtain ⟨y0, y1, yl⟩ := HF.out wr HB.out
    by_cases hjn : j < n
    · have dj : (j : Int) < (n : Int) := by omega
      have hju : j < us.length := by rw [HN.out]; exact hjn
      have hx := List.getElem?_eq_getElem hju
      generalize us[j] = x at hx
      obtain ⟨b, off, rfl, hc⟩ := str_at HR.out hjn hx
      obtain ⟨c0, cl⟩ := hc wr HB.out
      have HX := Lib.hid hx
      clear hc hx
      by_cases hxk : x = k
      · have hb : (x.toList == k.toList) = true := by rw [hxk]; simp
        have HK := Lib.hid (isIn_yes (s := k) (l := us) (List.mem_of_getElem? (hxk ▸ HX.out)))
        clear hxk
        go_wp2_with fail
        go_ret
        exact ⟨by rw [HK.out]; rfl, HB1.out.trans (HB.out.mono HB1.out.size)⟩
      · have hb := eq_bytes hxk
        have HK := Lib.hid hxk
        clear hxk
        go_wp2_with fail
        go_roundw
        case rel => exact ⟨j + 1, by go_num, by omega, HB, Lib.hid (fun q hq e => by
          rcases (by omega : q < j ∨ q = j) with h | rfl
          · exact HNO.out q h e
          · rw [HX.out] at e; cases e; exact HK.out rfl)⟩
        case measure => simp [intOf]; omega
    · have dj : ¬ (j : Int) < (n : Int) := by omega
      have hno : k ∉ us := by
        intro hm
        obtain ⟨q, hq⟩ := List.getElem?_of_mem hm
        have hlt := (List.getElem?_eq_some_iff.1 hq).1
        exact HNO.out q (by have := HN.out; omega) hq
      have HK := Lib.hid (isIn_no hno)
      clear hjn hno
      go_wp2_with fail
      go_ret
      exact ⟨by rw [HK.out]; rfl, HB1.out.trans (HB.out.mono HB1.out.size)⟩
set_option maxRecDepth 100000 in
set_option maxHeartbeats 2000000 in
theorem same_any (a a' : Option Addr) (n c n' c' : Nat) (xs ys : List ByteArray) (hn : xs.length = n) (hn1 : n ≤ 1000000) (hn' : ys.length = n') (hn1' : n' ≤ 1000000) (w : World) (hr : Row w (.slice a n c) 1 n (xs.map Value.string)) (hr' : Row w (.slice a' n' c') 1 n' (ys.map Value.string)) :
    Calls Try.prog 44 #[.slice a n c, .slice a' n' c'] w fun en w' => en = .returned (.bool (decide (xs = ys))) ∧ Below w.heap.size w w' := by
  have HR := Lib.hid hr
  have HR' := Lib.hid hr'
  have HN := Lib.hid hn
  have HN' := Lib.hid hn'
  have n0 : (0 : Int) ≤ (n : Int) := by omega
  have n1 : (n : Int) ≤ 1000000 := by omega
  have n0' : (0 : Int) ≤ (n' : Int) := by omega
  have n1' : (n' : Int) ≤ 1000000 := by omega
  clear hr hn hr' hn'
  go_enter Try.func44, Try.ntmps44
  go_wp2_with fail
  go_loopw [5] (fun iv wr => ∃ j : Nat, iv = .int .i64 (j : Int) ∧ j ≤ n ∧ j ≤ n' ∧ Hid (Below w.heap.size w wr) ∧ Hid (∀ q : Nat, q < j → xs[q]? = ys[q]?)) (fun iv _ => n - (intOf iv).toNat)
  case atStart => exact ⟨0, rfl, Nat.zero_le _, Nat.zero_le _, Lib.hid (Below.refl _ _), Lib.hid (fun q hq => by omega)⟩
  case round =>
    obtain ⟨j, rfl, hj, hj', HBW, HEQ⟩ := hrel
    have j0 : (0 : Int) ≤ (j : Int) := by omega
    by_cases hjn : j < n ∧ j < n'
    · have dj : (j : Int) < (n : Int) := by omega
      have dj' : (j : Int) < (n' : Int) := by omega
      have hju : j < xs.length := by rw [HN.out]; exact hjn.1
      have hju' : j < ys.length := by rw [HN'.out]; exact hjn.2
      have hx := List.getElem?_eq_getElem hju
      generalize xs[j] = x at hx
      have hy := List.getElem?_eq_getElem hju'
      generalize ys[j] = y at hy
      obtain ⟨b, off, rfl, hc⟩ := str_at HR.out hjn.1 hx
      obtain ⟨c0, cl⟩ := hc wr HBW.out
      obtain ⟨b', off', rfl, hc'⟩ := str_at HR'.out hjn.2 hy
      obtain ⟨c0', cl'⟩ := hc' wr HBW.out
      have HX := Lib.hid hx
      have HY := Lib.hid hy
      clear hc hx hc' hy
      go_upto_region 4 with fail
      go_quiet (fail)
      have HBQ := Lib.hid (below_drewN' HBW.out nq)
      by_cases hxy : x = y
      · have hb : (x.toList == y.toList) = true := by rw [hxy]; simp
        have HK := Lib.hid hxy
        have hnb : (!(x.toList == y.toList)) = false := by rw [hb]; rfl
        rw [hnb]
        clear hxy hb hnb
        go_wp2_with fail
        go_roundw
        case rel => exact ⟨j + 1, by go_num, by omega, by omega, HBQ, Lib.hid (fun q hq => by
          rcases (by omega : q < j ∨ q = j) with h | rfl
          · exact HEQ.out q h
          · rw [HX.out, HY.out, HK.out])⟩
        case measure => simp [intOf]; omega
      · have hb := eq_bytes hxy
        have HK : Hid (decide (xs = ys) = false) := Lib.hid (decide_eq_false (fun e => by have h1 := HX.out; rw [e, HY.out] at h1; exact hxy (Option.some.inj h1).symm))
        have hnb : (!(x.toList == y.toList)) = true := by rw [hb]; rfl
        rw [hnb]
        clear hxy hb hnb
        go_wp2_with fail
        go_ret
        exact ⟨by rw [HK.out]; rfl, HBQ.out⟩
    · have HK : Hid (decide (xs = ys) = decide (n = n')) := Lib.hid (by
        by_cases e : n = n'
        · rw [decide_eq_true e, decide_eq_true_eq]
          refine List.ext_getElem? (fun q => ?_)
          by_cases hq : q < j
          · exact HEQ.out q hq
          · rw [List.getElem?_eq_none (by have := HN.out; omega), List.getElem?_eq_none (by have := HN'.out; omega)]
        · rw [decide_eq_false e]
          exact decide_eq_false (fun h => e (by rw [← HN.out, ← HN'.out, h])))
      rcases Nat.lt_or_ge j n with h1 | h1
      · have d1 : (j : Int) < (n : Int) := by omega
        have d2 : ¬ (j : Int) < (n' : Int) := by omega
        have e : ¬ n = n' := by omega
        have de : ((n : Int) == (n' : Int)) = false := by simp; omega
        rw [decide_eq_false e] at HK
        clear hjn
        go_wp2_with fail
        go_ret
        exact ⟨by rw [HK.out]; rfl, HBW.out⟩
      · have d1 : ¬ (j : Int) < (n : Int) := by omega
        by_cases e : n = n'
        · have de : ((n : Int) == (n' : Int)) = true := by simp; omega
          rw [decide_eq_true e] at HK
          clear hjn
          go_wp2_with fail
          go_ret
          exact ⟨by rw [HK.out]; first | rfl | simp [e], HBW.out⟩
        · have de : ((n : Int) == (n' : Int)) = false := by simp; omega
          rw [decide_eq_false e] at HK
          clear hjn
          go_wp2_with fail
          go_ret
          exact ⟨by rw [HK.out]; first | rfl | simp [e], HBW.out⟩
end Go.Proofs.Ythhcjmikkiiahaa.cat
