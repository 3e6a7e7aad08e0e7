/- A table's columns: one by its name; whether they may be; walked. -/
import Derived.Test.YthhcjmikkiiahaaCatC
import Derived.Deep.Cut
namespace Go.Proofs.Ythhcjmikkiiahaa.cat
set_option linter.unusedVariables false
open Go.RowKit Go.WideShapes Go.MapKept
theorem cnCells_cons (x : Cn) (l : List Cn) : cnCells (x :: l) = [.string x.nm, .int .i64 x.k, .bool x.key] ++ cnCells l := by unfold cnCells; rw [List.flatMap_cons]
theorem cnCells_at : ∀ (l : List Cn) (j : Nat) (v : Cn), l[j]? = some v → (cnCells l)[j * 3]? = some (.string v.nm) ∧ (cnCells l)[j * 3 + 1]? = some (.int .i64 v.k) ∧ (cnCells l)[j * 3 + 2]? = some (.bool v.key)
  | [], j, v, h => by simp at h
  | a :: l, 0, v, h => by
    simp at h; subst h
    rw [cnCells_cons]; simp
  | a :: l, j + 1, v, h => by
    have := cnCells_at l j v (by simpa using h)
    rw [cnCells_cons, show (j + 1) * 3 = j * 3 + 3 by omega]
    simpa using this
theorem cell_later' {w w' : World} {p : Addr} {v : Value} (hb : Below w.heap.size w w') (h : w.cell? p = some v) (hp : p.block < w.heap.size) : w'.cell? p = some v := by rw [hb.cell hp]; exact h
theorem cn_at {w : World} {a : Option Addr} {cap n : Nat} {l : List Cn} {k : Nat} {x : Cn} (hv : Row w (.slice a n cap) 3 n (cnCells l)) (hk : k < n) (hx : l[k]? = some x) :
    ∃ b off, a = some ⟨b, off, none⟩ ∧ ∀ wq, Below w.heap.size w wq → wq.cell? ⟨b, off + k * 3, none⟩ = some (.string x.nm) ∧ wq.cell? ⟨b, off + k * 3 + 1, none⟩ = some (.int .i64 x.k) ∧ wq.cell? ⟨b, off + k * 3 + 2, none⟩ = some (.bool x.key) ∧ b < wq.heap.size := by
  obtain ⟨b, off, cap', ea, hcell⟩ := hv.pos (by omega)
  simp only [Value.slice.injEq] at ea
  obtain ⟨rfl, -, rfl⟩ := ea
  obtain ⟨c0, c1, c2⟩ := cnCells_at l k _ hx
  refine ⟨b, off, rfl, fun wq hb => ?_⟩
  have g0 := cell_later hb ((hcell (k * 3) (by omega)).trans c0)
  have g1 := cell_later hb ((hcell (k * 3 + 1) (by omega)).trans c1)
  have g2 := cell_later hb ((hcell (k * 3 + 2) (by omega)).trans c2)
  refine ⟨g0, by rw [Nat.add_assoc]; exact g1, by rw [Nat.add_assoc]; exact g2, ?_⟩
  exact World.block_lt_of_cell? _ _ g0
/-- the first column of a name -/
def ColOk (l : List Cn) (k : ByteArray) (i : Int) (f : Bool) : Prop := (f = true → ∃ j : Nat, i = (j : Int) ∧ (∃ x, l[j]? = some x ∧ x.nm = k) ∧ ∀ q x, q < j → l[q]? = some x → x.nm ≠ k) ∧ (f = false → i = 0 ∧ ∀ x ∈ l, x.nm ≠ k)
theorem eq_bytes {a b : ByteArray} (h : a ≠ b) : (a.toList == b.toList) = false := by
  cases e : a.toList == b.toList with
  | false => rfl
  | true =>
    exfalso
    apply h
    have := eq_of_beq e
    rw [Lib.toList_data, Lib.toList_data] at this
    exact ByteArray.ext (Array.toList_inj.1 this)
def ColPost (l : List Cn) (k : ByteArray) (w : World) (en : Ending) (w' : World) : Prop := ∃ (i : Int) (f : Bool), en = .returned (.tuple #[.int .i64 i, .bool f]) ∧ ColOk l k i f ∧ Below w.heap.size w w'
set_option maxRecDepth 100000 in
set_option maxHeartbeats 2000000 in
theorem column_any (tn : ByteArray) (tk : Int) (a : Option Addr) (n c : Nat) (l : List Cn) (hn : l.length = n) (hn1 : n ≤ 1000000) (k : ByteArray) (w : World) (hr : Row w (.slice a n c) 3 n (cnCells l)) :
    Calls Try.prog 15 #[.agg #[.string tn, .slice a n c, .int .i64 tk], .string k] w (ColPost l k w) := by
  have HR := Lib.hid hr
  have HN := Lib.hid hn
  have n0 : (0 : Int) ≤ (n : Int) := by omega
  have n1 : (n : Int) ≤ 1000000 := by omega
  clear hr hn
  go_enter Try.func15, Try.ntmps15
  go_wp2_with fail
  go_loopw [11] (fun iv wr => ∃ j : Nat, iv = .int .i64 (j : Int) ∧ j ≤ n ∧ Hid (Below w.heap.size w wr) ∧ Hid (∀ q x, q < j → l[q]? = some x → x.nm ≠ k)) (fun iv _ => n - (intOf iv).toNat)
  case atStart => exact ⟨0, rfl, Nat.zero_le _, Lib.hid ((Below.refl _ _).alloc (Nat.le_refl _) _), Lib.hid (fun q x hq => by omega)⟩
  case round =>
    obtain ⟨j, rfl, hj, HB, HNO⟩ := hrel
    have j0 : (0 : Int) ≤ (j : Int) := by omega
    by_cases hjn : j < n
    · have dj : (j : Int) < (n : Int) := by omega
      have hju : j < l.length := by rw [HN.out]; exact hjn
      have hx := List.getElem?_eq_getElem hju
      generalize l[j] = x at hx
      obtain ⟨b, off, rfl, hc⟩ := cn_at HR.out hjn hx
      obtain ⟨c0, c1, c2, cl⟩ := hc wr HB.out
      have HX := Lib.hid hx
      clear hc hx
      by_cases hxk : x.nm = k
      · have hb : (x.nm.toList == k.toList) = true := by rw [hxk]; simp
        have HK := Lib.hid hxk
        clear hxk
        obtain ⟨xn, xk, xb⟩ := x
        dsimp only at c0 c1 c2 hb
        go_wp2_with fail
        refine bodyPost_ret (results_tmp2 rfl _ _ _) rfl ?_
        exact ⟨(j : Int), true, rfl, ⟨fun _ => ⟨j, rfl, ⟨_, HX.out, HK.out⟩, HNO.out⟩, fun h => (by cases h)⟩, HB.out.alloc HB.out.size _⟩
      · have hb := eq_bytes hxk
        have HK := Lib.hid hxk
        clear hxk
        obtain ⟨xn, xk, xb⟩ := x
        dsimp only at c0 c1 c2 hb
        go_wp2_with fail
        go_roundw
        case rel => exact ⟨j + 1, by go_num, by omega, Lib.hid (HB.out.alloc HB.out.size _), Lib.hid (fun q y hq hy => by
          rcases (by omega : q < j ∨ q = j) with h | rfl
          · exact HNO.out q y h hy
          · rw [HX.out] at hy; cases hy; exact HK.out)⟩
        case measure => simp [intOf]; omega
    · have dj : ¬ (j : Int) < (n : Int) := by omega
      have HJ := Lib.hid hjn
      clear hjn
      go_wp2_with fail
      refine bodyPost_ret (results_tmp2 rfl _ _ _) rfl ?_
      refine ⟨0, false, rfl, ⟨fun h => (by cases h), fun _ => ⟨rfl, fun x hx => ?_⟩⟩, HB.out⟩
      obtain ⟨q, hq⟩ := List.getElem?_of_mem hx
      have hlt := (List.getElem?_eq_some_iff.1 hq).1
      exact HNO.out q x (by have := HN.out; have := HJ.out; omega) hq
/-- whether columns may be a table's -/
def keysN (l : List Cn) : Nat := (l.filter (fun x => x.key)).length
/-- two columns of one name -/
def Dup (l : List Cn) (n : Nat) : Prop := ∃ (i q : Nat) (x y : Cn), i < n ∧ q < i ∧ l[q]? = some x ∧ l[i]? = some y ∧ x.nm = y.nm
def kindB (l : List Cn) : Bool := l.any (fun x => decide (x.k < 1) || decide (3 < x.k))
noncomputable def checkE (l : List Cn) : Int := if keysN l ≠ 1 ∨ 8 < l.length then 17 else if kindB l then 5 else @ite _ (Dup l l.length) (Classical.propDecidable _) 7 0
theorem Dup.mono {l : List Cn} {n m : Nat} (h : Dup l n) (hm : n ≤ m) : Dup l m := by
  obtain ⟨i, q, x, y, h1, h2⟩ := h
  exact ⟨i, q, x, y, by omega, h2⟩
set_option maxRecDepth 100000 in
set_option maxHeartbeats 8000000 in
theorem check_any (tn : ByteArray) (tk : Int) (a : Option Addr) (n c : Nat) (l : List Cn) (hn : l.length = n) (hn1 : n ≤ 1000000) (w : World) (hr : Row w (.slice a n c) 3 n (cnCells l)) :
    Calls Try.prog 40 #[.agg #[.string tn, .slice a n c, .int .i64 tk]] w fun en w' => en = .returned (.int .i64 (checkE l)) ∧ Below w.heap.size w w' := by
  obtain ⟨W1, hW1⟩ : ∃ W, w.alloc (.cells #[.string tn, .slice a n c, .int .i64 tk] 47) = W := ⟨_, rfl⟩
  obtain ⟨g1, hg1⟩ : ∃ g, w.heap.size = g := ⟨_, rfl⟩
  have hb1 : Below w.heap.size w W1 := by rw [← hW1]; exact (Below.refl _ _).alloc (Nat.le_refl _) _
  have hf1 : Flds W1 g1 47 [.string tn, .slice a n c, .int .i64 tk] := by rw [← hW1, ← hg1]; exact Flds.new w _ _
  have HF := Lib.hid (fun (W : World) (hb : Below W1.heap.size W1 W) => And.intro ((hf1.later hb).cell 0) (And.intro ((hf1.later hb).cell 1) (And.intro ((hf1.later hb).cell 2) (hf1.later hb).lt)))
  simp only [List.getElem?_cons_zero, List.getElem?_cons_succ] at HF
  have HR := Lib.hid (hr.later hb1)
  have HCO := Lib.hid (fun (k : ByteArray) (W : World) (hb : Below W1.heap.size W1 W) => column_any tn tk a n c l hn hn1 k W ((hr.later hb1).later hb))
  have HN := Lib.hid hn
  have HB1 := Lib.hid hb1
  have n0 : (0 : Int) ≤ (n : Int) := by omega
  have n1 : (n : Int) ≤ 1000000 := by omega
  obtain ⟨y0, y1, y2, yl⟩ := HF.out W1 (Below.refl _ _)
  clear hr hn hb1 hf1
  go_enter Try.func40, Try.ntmps40
  go_upto_region 2 with fail
  try rw [hW1, hg1]
  clear hW1 hg1
  go_wp2_with fail
  go_loopw [3, 15] (fun kv iv wr => ∃ j : Nat, iv = .int .i64 (j : Int) ∧ kv = .int .i64 ((keysN (l.take j) : Nat) : Int) ∧ j ≤ n ∧ Hid (Below W1.heap.size W1 wr)) (fun _ iv _ => n - (intOf iv).toNat)
  case atStart => exact ⟨0, rfl, rfl, Nat.zero_le _, Lib.hid (Below.refl _ _)⟩
  case round =>
    obtain ⟨j, rfl, rfl, hj, HB⟩ := hrel
    have j0 : (0 : Int) ≤ (j : Int) := by omega
    obtain ⟨K, hK⟩ : ∃ K, keysN (l.take j) = K := ⟨_, rfl⟩
    have hKj : K ≤ j := by rw [← hK]; unfold keysN; exact Nat.le_trans (List.length_filter_le ..) (by rw [List.length_take]; omega)
    rw [hK]
    have k0 : (0 : Int) ≤ (K : Int) := by omega
    have k1 : (K : Int) ≤ 1000000 := by omega
    by_cases hjn : j < n
    · have dj : (j : Int) < (n : Int) := by omega
      have hju : j < l.length := by rw [HN.out]; exact hjn
      have hx := List.getElem?_eq_getElem hju
      generalize l[j] = x at hx
      obtain ⟨b, off, rfl, hc⟩ := cn_at HR.out hjn hx
      obtain ⟨c0, c1, c2, cl⟩ := hc wr HB.out
      have hnext : keysN (l.take (j + 1)) = K + (if x.key then 1 else 0) := by
        unfold keysN at hK ⊢
        rw [List.take_add_one, hx, List.filter_append, List.length_append, hK]
        obtain ⟨xn, xk, xb⟩ := x
        cases xb <;> rfl
      have HX := Lib.hid hnext
      clear hc hx hnext hK
      obtain ⟨xn, xk, xb⟩ := x
      dsimp only at c0 c1 c2 HX
      cases xb with
      | true =>
        go_wp2_with fail
        go_roundw
        case rel => exact ⟨j + 1, by go_num, by rw [HX.out]; go_num, by omega, Lib.hid (HB.out.alloc HB.out.size _)⟩
        case measure => simp [intOf]; omega
      | false =>
        go_wp2_with fail
        go_roundw
        case rel => exact ⟨j + 1, by go_num, by rw [HX.out]; go_num, by omega, Lib.hid (HB.out.alloc HB.out.size _)⟩
        case measure => simp [intOf]; omega
    · have hje : n = j := by omega
      subst hje
      have dj : ¬ (n : Int) < (n : Int) := by omega
      rw [List.take_of_length_le (by have := HN.out; omega)] at hK
      clear hjn y0 y1 y2 yl
      obtain ⟨y0, y1, y2, yl⟩ := HF.out wr HB.out
      by_cases h17 : K ≠ 1 ∨ 8 < n
      · have HE : Hid (checkE l = 17) := Lib.hid (by unfold checkE; rw [if_pos]; rw [hK, HN.out]; exact h17)
        clear hK
        by_cases hk1 : K = 1
        · subst hk1
          have d8 : (8 : Int) < (n : Int) := by omega
          clear h17
          go_wp2_with fail
          go_ret
          exact ⟨(by (rw [HE.out]) <;> rfl), HB1.out.trans (HB.out.mono HB1.out.size)⟩
        · have dk : ((K : Int) != 1) = true := by simp; omega
          clear h17 hk1
          go_wp2_with fail
          go_ret
          exact ⟨(by (rw [HE.out]) <;> rfl), HB1.out.trans (HB.out.mono HB1.out.size)⟩
      · obtain ⟨rfl, hn8⟩ : K = 1 ∧ n ≤ 8 := by omega
        have HK := Lib.hid hK
        have d8 : ¬ (8 : Int) < (n : Int) := by omega
        clear h17 hK hKj k0 k1
        go_upto_region 10 with fail
        go_wp2_with fail
        go_loopw [35] (fun iv wr => ∃ j : Nat, iv = .int .i64 (j : Int) ∧ j ≤ n ∧ Hid (Below W1.heap.size W1 wr) ∧ Hid (∀ q x, q < j → l[q]? = some x → 1 ≤ x.k ∧ x.k ≤ 3)) (fun iv _ => n - (intOf iv).toNat)
        case atStart => exact ⟨0, rfl, Nat.zero_le _, HB, Lib.hid (fun q x hq => by omega)⟩
        case round =>
          obtain ⟨j, rfl, hj, HB2, HKD⟩ := hrel
          have j0 : (0 : Int) ≤ (j : Int) := by omega
          clear y0 y1 y2 yl
          obtain ⟨y0, y1, y2, yl⟩ := HF.out _ HB2.out
          by_cases hjn : j < n
          · have dj : (j : Int) < (n : Int) := by omega
            have hju : j < l.length := by rw [HN.out]; exact hjn
            have hx := List.getElem?_eq_getElem hju
            generalize l[j] = x at hx
            obtain ⟨b, off, rfl, hc⟩ := cn_at HR.out hjn hx
            obtain ⟨c0, c1, c2, cl⟩ := hc _ HB2.out
            have HX := Lib.hid hx
            clear hc hx
            by_cases hk1 : x.k < 1
            · have HE : Hid (checkE l = 5) := Lib.hid (by
                unfold checkE
                rw [if_neg (by rw [HK.out, HN.out]; omega), if_pos]
                unfold kindB
                exact List.any_eq_true.2 ⟨x, List.mem_of_getElem? HX.out, by simp [hk1]⟩)
              obtain ⟨xn, xk, xb⟩ := x
              dsimp only at c0 c1 c2 hk1
              have dk : decide (xk < 1) = true := by simp; omega
              go_wp2_with fail
              go_ret
              exact ⟨(by (rw [HE.out]) <;> rfl), HB1.out.trans ((HB2.out.alloc HB2.out.size _).mono HB1.out.size)⟩
            · by_cases hk3 : 3 < x.k
              · have HE : Hid (checkE l = 5) := Lib.hid (by
                  unfold checkE
                  rw [if_neg (by rw [HK.out, HN.out]; omega), if_pos]
                  unfold kindB
                  exact List.any_eq_true.2 ⟨x, List.mem_of_getElem? HX.out, by simp [hk3]⟩)
                obtain ⟨xn, xk, xb⟩ := x
                dsimp only at c0 c1 c2 hk1 hk3
                have dk : decide (xk < 1) = false := by simp; omega
                have dk3 : decide (3 < xk) = true := by simp; omega
                go_wp2_with fail
                go_ret
                exact ⟨(by (rw [HE.out]) <;> rfl), HB1.out.trans ((HB2.out.alloc HB2.out.size _).mono HB1.out.size)⟩
              · have HXK := Lib.hid (And.intro hk1 hk3)
                obtain ⟨xn, xk, xb⟩ := x
                dsimp only at c0 c1 c2 hk1 hk3 HXK
                have dk : decide (xk < 1) = false := by simp; omega
                have dk3 : decide (3 < xk) = false := by simp; omega
                go_wp2_with fail
                go_roundw
                case rel => exact ⟨j + 1, by go_num, by omega, Lib.hid (HB2.out.alloc HB2.out.size _), Lib.hid (fun q y hq hy => by
                  rcases (by omega : q < j ∨ q = j) with h | rfl
                  · exact HKD.out q y h hy
                  · rw [HX.out] at hy; cases hy; have h1 := HXK.out; dsimp only; omega)⟩
                case measure => simp [intOf]; omega
          · have hje : n = j := by omega
            subst hje
            have HKB : Hid (kindB l = false) := Lib.hid (by
              cases e : kindB l with
              | false => rfl
              | true =>
                exfalso
                unfold kindB at e
                obtain ⟨x, hx, h⟩ := List.any_eq_true.1 e
                obtain ⟨q, hq⟩ := List.getElem?_of_mem hx
                have hlt := (List.getElem?_eq_some_iff.1 hq).1
                have h2 := HKD.out q x (by have := HN.out; omega) hq
                simp at h; omega)
            clear hjn dj
            have dj : ¬ (n : Int) < (n : Int) := by omega
            go_wp2_with fail
            go_loopw [51] (fun iv wr => ∃ j : Nat, iv = .int .i64 (j : Int) ∧ j ≤ n ∧ Hid (Below W1.heap.size W1 wr) ∧ Hid (¬ Dup l j)) (fun iv _ => n - (intOf iv).toNat)
            case atStart => exact ⟨0, rfl, Nat.zero_le _, HB2, Lib.hid (fun ⟨i, q, x, y, h1, _⟩ => by omega)⟩
            case round =>
              obtain ⟨j, rfl, hj, HB3, HND⟩ := hrel
              have j0 : (0 : Int) ≤ (j : Int) := by omega
              clear y0 y1 y2 yl
              by_cases hjn : j < n
              · have dj : (j : Int) < (n : Int) := by omega
                have hju : j < l.length := by rw [HN.out]; exact hjn
                have hx := List.getElem?_eq_getElem hju
                generalize l[j] = x at hx
                obtain ⟨b, off, rfl, hc⟩ := cn_at HR.out hjn hx
                obtain ⟨c0, c1, c2, cl⟩ := hc _ HB3.out
                have HX := Lib.hid hx
                clear hc hx
                obtain ⟨xn, xk, xb⟩ := x
                dsimp only at c0 c1 c2
                have hb4 : Below W1.heap.size W1 (wr.alloc (.cells #[.string xn, .int .i64 xk, .bool xb] TCo)) := HB3.out.alloc HB3.out.size _
                obtain ⟨y0, y1, y2, yl⟩ := HF.out _ HB3.out
                have HB4 := Lib.hid hb4
                clear hb4
                go_upto_region 20 with (go_at_call 15; refine (HCO.out xn _ HB4.out).mono ?_; rintro ee w5 ⟨i, f, rfl, hco, hb5⟩; have HCK := Lib.hid hco; have HB5 := Lib.hid hb5; clear hco hb5)
                cases f with
                | false =>
                  exfalso
                  exact (HCK.out.2 rfl).2 _ (List.mem_of_getElem? HX.out) rfl
                | true =>
                  obtain ⟨q, rfl, ⟨y, hy, hyn⟩, hq⟩ := HCK.out.1 rfl
                  have hqj : q ≤ j := by
                    false_or_by_contra
                    exact hq j _ (by omega) HX.out rfl
                  have HYQ := Lib.hid (And.intro hy (And.intro hyn hq))
                  have HBZ : Hid (Below w.heap.size w w5) := Lib.hid (by
                    have h1 := HB4.out.trans (HB5.out.mono HB4.out.size)
                    exact HB1.out.trans (h1.mono HB1.out.size))
                  have HBW := Lib.hid (HB4.out.trans (HB5.out.mono HB4.out.size))
                  clear hy hyn hq
                  by_cases hqq : q < j
                  · have dq : (q : Int) < (j : Int) := by omega
                    have HE : Hid (checkE l = 7) := Lib.hid (by
                      unfold checkE
                      rw [if_neg (by rw [HK.out, HN.out]; omega), if_neg (by rw [HKB.out]; decide), if_pos]
                      exact ⟨j, q, y, _, by rw [HN.out]; exact hjn, hqq, HYQ.out.1, HX.out, HYQ.out.2.1⟩)
                    go_wp2_with fail
                    go_ret
                    exact ⟨(by (rw [HE.out]) <;> rfl), HBZ.out⟩
                  · have dq : ¬ (q : Int) < (j : Int) := by omega
                    go_wp2_with fail
                    go_roundw
                    case rel => exact ⟨j + 1, by go_num, by omega, HBW, Lib.hid (fun ⟨i', q', x', y', h1, h2, h3, h4, h5⟩ => by
                      rcases (by omega : i' < j ∨ i' = j) with h | rfl
                      · exact HND.out ⟨i', q', x', y', h, h2, h3, h4, h5⟩
                      · rw [HX.out] at h4
                        cases h4
                        exact HYQ.out.2.2 q' x' (by omega) h3 h5)⟩
                    case measure => simp [intOf]; omega
              · have hje : n = j := by omega
                subst hje
                have HE : Hid (checkE l = 0) := Lib.hid (by
                  unfold checkE
                  rw [if_neg (by rw [HK.out, HN.out]; omega), if_neg (by rw [HKB.out]; decide), if_neg]
                  rw [HN.out]; exact HND.out)
                clear hjn
                go_wp2_with fail
                go_ret
                exact ⟨(by (rw [HE.out]) <;> rfl), HB1.out.trans (HB3.out.mono HB1.out.size)⟩
end Go.Proofs.Ythhcjmikkiiahaa.cat
