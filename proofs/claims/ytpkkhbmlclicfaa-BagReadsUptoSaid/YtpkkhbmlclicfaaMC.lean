/- Bags brought together, walked. -/
import Derived.Test.YtpkkhbmlclicfaaBagH
import Derived.Test.YtpkkhbmlclicfaaMG
namespace Go.Proofs.Ytpkkhbmlclicfaa.val
set_option linter.unusedVariables false
open Go.RowKit Go.Sort
theorem Smx.append {W : World} {xs ys : List (Value × Nat)} {l m : BL} (h : Smx W xs l) (h' : Smx W ys m) : Smx W (xs ++ ys) (l ++ m) := by
  refine ⟨by rw [List.length_append, List.length_append, h.1, h'.1], fun j x y h1 h2 => ?_⟩
  by_cases hj : j < xs.length
  · rw [List.getElem?_append_left hj] at h1
    rw [List.getElem?_append_left (by rw [← h.1]; exact hj)] at h2
    exact h.2 j x y h1 h2
  · rw [List.getElem?_append_right (by omega)] at h1
    rw [List.getElem?_append_right (by rw [← h.1]; omega), ← h.1] at h2
    exact h'.2 _ x y h1 h2
theorem eCells_one {W : World} {xs : List (Value × Nat)} {l : BL} (h : Smx W xs l) : ∀ u ∈ eCells xs, u.oneCell' = true := by
  intro u hu
  obtain ⟨x, hx, hu⟩ := List.mem_flatMap.1 hu
  obtain ⟨j, hj, rfl⟩ := List.getElem_of_mem hx
  obtain ⟨a, c, e⟩ := owns_shape (h.2 j _ _ (List.getElem?_eq_getElem hj) (List.getElem?_eq_getElem (by rw [← h.1]; exact hj))).2
  simp only [List.mem_cons, List.mem_nil_iff, or_false] at hu
  rcases hu with rfl | rfl
  · rw [e]; rfl
  · rfl
/-- bags in memory -/
def Bgs (w : World) (bs : List Value) (os : List BL) : Prop := bs.length = os.length ∧ ∀ (j : Nat) b o, bs[j]? = some b → os[j]? = some o → IsBag w (.agg #[b]) o
theorem Bgs.later {w w' : World} {bs : List Value} {os : List BL} (h : Bgs w bs os) (hb : Below w.heap.size w w') : Bgs w' bs os := ⟨h.1, fun j b o h1 h2 => (h.2 j b o h1 h2).later hb⟩
theorem Strict.len {o : BL} (h : Strict o) : o.length ≤ total o := by
  have key : ∀ l : BL, (∀ x ∈ l, 0 < x.2) → l.length ≤ total l := by
    intro l
    induction l with
    | nil => intro _; exact Nat.le_refl _
    | cons a l ih =>
      intro hp
      have h1 := hp a (List.mem_cons_self ..)
      have h2 := ih (fun x hx => hp x (List.mem_cons_of_mem _ hx))
      unfold total at h2 ⊢
      simp only [List.map_cons, List.sum_cons, List.length_cons]
      omega
  exact key o h.2
set_option maxRecDepth 100000 in
set_option maxHeartbeats 4000000 in
theorem plus_any (v : Value) (bs : List Value) (os : List BL) (hn : bs.length ≤ 1000) (ht : total os.flatten ≤ 1000000) (hln : os.flatten.length ≤ 1000000) (w : World) (hv : Row w v 1 bs.length bs) (hr : Bgs w bs os) :
    Calls Try.prog 14 #[v] w fun e w' => ∃ bv, e = .returned bv ∧ ∃ o, IsBag w' bv o ∧ (∀ r, cnt o r = cnt os.flatten r) ∧ total o = total os.flatten ∧ Below w.heap.size w w' := by
  obtain ⟨i0, hi, hz0, hz1, hz2⟩ := info_parts infoTs
  obtain ⟨W1, hW1⟩ : ∃ W1, w.alloc (.cells #[.slice none 0 0] TB) = W1 := ⟨_, rfl⟩
  have hb1 : Below w.heap.size w W1 := by rw [← hW1]; exact (Below.refl _ _).alloc (Nat.le_refl _) _
  have hfl : Flds W1 w.heap.size TB [.slice none 0 0] := by rw [← hW1]; exact Flds.new w TB [.slice none 0 0]
  have hs1 : w.heap.size < W1.heap.size := hfl.lt
  have HB1 := Lib.hid hb1
  have HFL := Lib.hid hfl
  have HV := Lib.hid (hv.later hb1)
  have HR := Lib.hid (hr.later hb1)
  have HT := Lib.hid ht
  have HLN := Lib.hid hln
  have HLL : Hid (os.length = bs.length) := Lib.hid hr.1.symm
  have hgood : ∀ o ∈ os, Strict o ∧ GoodB o ∧ Small o := fun o ho => by
    obtain ⟨j, hj, rfl⟩ := List.getElem_of_mem ho
    obtain ⟨_, _, _, _, _, _, h1, h2, h3⟩ := hr.2 j _ _ (List.getElem?_eq_getElem (by rw [hr.1]; exact hj)) (List.getElem?_eq_getElem hj)
    exact ⟨h1, h2, h3⟩
  have HGD := Lib.hid hgood
  have hn0 : (0 : Int) ≤ (bs.length : Int) := by omega
  have hn1 : (bs.length : Int) ≤ 1000 := by omega
  obtain ⟨a, cap, rfl, -⟩ := hv
  clear hb1 hfl hr ht hgood hln
  go_enter Try.func14, Try.ntmps14
  go_upto_region 1 with fail
  clear hW1
  obtain ⟨g0, hg0⟩ : ∃ g0, w.heap.size = g0 := ⟨_, rfl⟩
  rw [hg0] at HFL ⊢
  go_wp2_with fail
  go_loopw [3, 8] (fun sv iv wr => ∃ (k : Nat) (aa : Option Addr) (cc : Nat) (xs : List (Value × Nat)), sv = .slice aa xs.length cc ∧ iv = .int .i64 (k : Int) ∧ k ≤ bs.length ∧ Hid (wr.ownsRow W1.heap.size TS 2 sv xs.length (eCells xs)) ∧ Hid (Smx wr xs (os.take k).flatten) ∧ Hid (Below W1.heap.size W1 wr)) (fun _ iv _ => bs.length - (intOf iv).toNat)
  case atStart => exact ⟨0, none, 0, [], rfl, rfl, Nat.zero_le _, Lib.hid (World.ownsRow_nil _ _ _ _), Lib.hid (Smx.nil _), Lib.hid (Below.refl _ _)⟩
  case round =>
    obtain ⟨k, aa, cc, xs, rfl, rfl, hk, HO, HS, HB⟩ := hrel
    have hd0 : (0 : Int) ≤ (k : Int) := by omega
    by_cases hkn : k < bs.length
    · have dk : (k : Int) < (bs.length : Int) := by omega
      have hkl : k < os.length := by rw [HLL.out]; exact hkn
      obtain ⟨b, off, cap', ea, g0c⟩ := row_at (HV.out.later HB.out) k hkn
      simp only [Value.slice.injEq] at ea
      obtain ⟨rfl, -, rfl⟩ := ea
      have hbg := (HR.out.later HB.out).2 k _ _ (List.getElem?_eq_getElem hkn) (List.getElem?_eq_getElem hkl)
      have htk : (os.take (k + 1)).flatten = (os.take k).flatten ++ os[k] := by
        rw [List.take_succ_eq_append_getElem hkl, List.flatten_append]; simp
      have hlt : xs.length + (os[k]).length ≤ 1000000 := by
        have h1 := HS.out.1
        have h2 := congrArg List.length htk
        rw [List.length_append] at h2
        have h3 : (os.take (k + 1)).flatten.length ≤ os.flatten.length := by
          conv => rhs; rw [← List.take_append_drop (k + 1) os]
          rw [List.flatten_append, List.length_append]; omega
        have h4 := HLN.out
        omega
      generalize bs[k] = u at *
      generalize os[k] = o at *
      obtain ⟨ab, cb, ys, hu, hob, hsb, -⟩ := hbg
      simp only [Value.agg.injEq, Array.mk.injEq, List.cons.injEq, and_true] at hu
      subst hu
      have HTK := Lib.hid htk
      have hal := below_alloc1 wr (.cells #[.slice ab o.length cb] TB)
      have HOT := Lib.hid (HO.out.alloc (.cells #[.slice ab o.length cb] TB))
      have HST := Lib.hid (HS.out.later hal)
      have HF5 := Lib.hid (Flds.new wr TB [.slice ab o.length cb])
      have HSB := Lib.hid (hsb.later hal)
      have HRB := Lib.hid (Row.of_owns (owns_below hob hal))
      have HBT := Lib.hid (HB.out.trans (hal.mono HB.out.size))
      have H1 := Lib.hid (eCells_one hsb)
      have H63 : Hid (xs.length + o.length ≤ maxLen) := Lib.hid (by unfold maxLen; omega)
      have H64 : Hid ((xs.length + o.length) * 32 ≤ 140737488355328) := Lib.hid (by omega)
      clear hob hsb htk hkl hal HO HS
      go_upto_region 5 with fail
      generalize wr.alloc (.cells #[.slice ab o.length cb] TB) = wt at *
      generalize wr.heap.size = g5 at *
      have c0 := HF5.out.cell 0
      simp only [List.getElem?_cons_zero] at c0
      have hl5 : g5 < wt.heap.size := HF5.out.lt
      go_wp2_with (at_builtin; refine wpList_append_row _ rfl (.tmp 12) (.tmp 14) 28 (by rfl) W1.heap.size TS i0 (.agg #[.slice none 0 0, .int .i64 0]) 2 32 Try.underlying28 hi hz0 hz1 hz2 rfl (by decide) (.slice aa xs.length cc) xs.length (eCells xs) (by rfl) HOT.out (.slice ab o.length cb) o.length (eCells ys) (by rfl) HRB.out H1.out H63.out H64.out HBT.out.size ?_; intro a9 c9 w9 hap; have HAP := Lib.hid hap; clear hap)
      have hgr := HAP.out.grown
      have hS9 := HST.out.kept hgr (HST.out.apart HOT.out (by decide))
      have hY9 := HSB.out.kept hgr (HSB.out.apart HOT.out (by decide))
      have HB9 := Lib.hid (HBT.out.grown hgr HBT.out.size (fun j hj => (HOT.out.lt j hj).1))
      have HS9 := Lib.hid (hS9.append hY9)
      have hyo : ys.length = o.length := HSB.out.1
      have HO9 := Lib.hid HAP.out.own
      clear hgr hS9 hY9 HAP
      go_wp2_with fail
      go_roundw
      case rel => exact ⟨k + 1, a9, c9, xs ++ ys, by rw [List.length_append, hyo], by go_num, by omega, Lib.hid (by rw [List.length_append, hyo, eCells_append]; exact HO9.out), Lib.hid (by rw [HTK.out]; exact HS9.out), HB9⟩
      case measure => simp [intOf]; omega
    · have dk : ¬ (k : Int) < (bs.length : Int) := by omega
      have htk : os.take k = os := List.take_of_length_le (by rw [HLL.out]; omega)
      have hsx := HS.out
      rw [htk] at hsx
      have hxl : xs.length ≤ 1000000 := by rw [hsx.1]; exact HLN.out
      have hon := owns_base HO.out (fun g hg => Nat.zero_le _)
      have HGA := Lib.hid (gather_any (.slice aa xs.length cc) xs os.flatten (by omega) (fun x hx => by
        obtain ⟨o, ho, hx⟩ := List.mem_flatten.1 hx
        exact (HGD.out o ho).2.1 x hx) (fun x hx => by
        obtain ⟨o, ho, hx⟩ := List.mem_flatten.1 hx
        exact (HGD.out o ho).2.2 x hx) (fun x hx => by
        obtain ⟨o, ho, hx⟩ := List.mem_flatten.1 hx
        exact (HGD.out o ho).1.2 x hx) (by have := HT.out; omega) wr hon hsx)
      have HFR := Lib.hid (HFL.out.later HB.out)
      have HNG : Hid ((Value.slice aa xs.length cc).ownBlock ≠ some g0) := Lib.hid (fun e => by have := (HO.out.lt _ e).1; have := HFL.out.lt; omega)
      have HBG : Hid (∀ j, (Value.slice aa xs.length cc).ownBlock = some j → W1.heap.size ≤ j) := Lib.hid (fun j e => (HO.out.lt _ e).1)
      clear htk hsx hon
      go_upto_region 8 with (go_at_call 26; (with_reducible refine (HGA.out).mono ?_); rintro e w6 ⟨bv, o, rfl, hbag, hcnt, htot, honly⟩; have HBAG := Lib.hid hbag; have HCNT := Lib.hid hcnt; have HTOT := Lib.hid htot; have HONL := Lib.hid honly; obtain ⟨ab, cb, xb, rfl, -⟩ := hbag; have hf6 : Flds w6 g0 TB [.slice none 0 0] := (HONL.out.block g0 HFR.out.lt (fun e => HNG.out e)).trans HFR.out; have q0 := hf6.cell 0; have qf := hf6.frozen 0; simp only [List.getElem?_cons_zero] at q0; have ql := hf6.lt; have HF6 := Lib.hid hf6; clear hf6 hcnt htot honly)
      have HBE := Lib.hid ((HB1.out.trans ((HB.out.trans (HONL.out.below HB.out.size HBG.out)).mono HB1.out.size)).setCell (p := ⟨g0, 0, none⟩) (by rw [hg0]; exact Nat.le_refl _) (.slice ab o.length cb))
      refine bodyPost_ret (v := .agg #[.slice ab o.length cb]) ?_ (by rfl) ⟨_, rfl, o, HBAG.out.setObj HF6.out 0 _, HCNT.out, HTOT.out, HBE.out⟩
      simp only [results, Try.results14]; go_simp
end Go.Proofs.Ytpkkhbmlclicfaa.val
/- Are two bags the same? Walked. -/
namespace Go.Proofs.Ytpkkhbmlclicfaa.val
set_option linter.unusedVariables false
open Go.RowKit Go.Sort
attribute [local go_sem high] run_eqlV run_neqV
/-- are both the same? -/
noncomputable def eqB {α : Type} (x y : α) : Bool := @decide (x = y) (Classical.propDecidable _)
theorem eqB_t {α : Type} {x y : α} (h : x = y) : eqB x y = true := @decide_eq_true _ (Classical.propDecidable _) h
theorem eqB_f {α : Type} {x y : α} (h : x ≠ y) : eqB x y = false := @decide_eq_false _ (Classical.propDecidable _) h
theorem ret_b {a b : Bool} (h : a = b) : Ending.returned (.bool a) = .returned (.bool b) := by rw [h]
theorem v_eq (x y : V) : veq6 x.k x.n x.s y.k y.n y.s = true ↔ x = y := by
  obtain ⟨k, n, s⟩ := x
  obtain ⟨k', n', s'⟩ := y
  unfold veq6
  simp only [Bool.and_eq_true, beq_iff_eq, V.mk.injEq]
  constructor
  · rintro ⟨rfl, rfl, h⟩
    rw [ByteArray.toList_eq, ByteArray.toList_eq] at h
    exact ⟨rfl, rfl, bytes_data h⟩
  · rintro ⟨rfl, rfl, rfl⟩; exact ⟨rfl, rfl, rfl⟩
set_option maxRecDepth 100000 in
set_option maxHeartbeats 4000000 in
theorem equal_any (va vb : Value) (l m : List V) (hl : l.length ≤ 1000000) (hm : m.length ≤ 1000000) (w : World) (ha : IsRow w va l) (hb : IsRow w vb m) :
    Calls Try.prog 36 #[va, vb] w fun e w' => e = .returned (.bool (eqB l m)) ∧ Below w.heap.size w w' := by
  have HA := Lib.hid ha
  have HBB := Lib.hid hb
  obtain ⟨a1, k1, rfl, -⟩ := ha
  obtain ⟨a2, k2, rfl, -⟩ := hb
  have hl0 : (0 : Int) ≤ (l.length : Int) := by omega
  have hl1 : (l.length : Int) ≤ 1000000 := by omega
  have hm0 : (0 : Int) ≤ (m.length : Int) := by omega
  by_cases hne : l.length = m.length
  · have e1 : ((l.length : Int) != (m.length : Int)) = false := by simp; omega
    have HNE := Lib.hid hne
    rw [← hne] at e1 ⊢
    rw [← hne] at HBB
    clear hne hm0 hm
    go_enter Try.func36, Try.ntmps36
    go_wp2_with fail
    go_loopw [5, 13] (fun _ iv wr => ∃ k : Nat, iv = .int .i64 (k : Int) ∧ k ≤ l.length ∧ Hid (l.take k = m.take k) ∧ Hid (Below w.heap.size w wr)) (fun _ iv _ => l.length - (intOf iv).toNat)
    case atStart => exact ⟨0, rfl, Nat.zero_le _, Lib.hid rfl, Lib.hid (Below.refl _ _)⟩
    case round =>
      obtain ⟨k, rfl, hk, HE, HB⟩ := hrel
      have hd0 : (0 : Int) ≤ (k : Int) := by omega
      by_cases hkn : k < l.length
      · have dk : (k : Int) < (l.length : Int) := by omega
        have hkm : k < m.length := by rw [← HNE.out]; exact hkn
        obtain ⟨b, off, cap', ea, hcell⟩ := (HA.out.later HB.out).pos (by omega)
        simp only [Value.slice.injEq] at ea
        obtain ⟨rfl, -, rfl⟩ := ea
        obtain ⟨b2, off2, cap2, ea2, hcell2⟩ := (HBB.out.later HB.out).pos (by omega)
        simp only [Value.slice.injEq] at ea2
        obtain ⟨rfl, -, rfl⟩ := ea2
        obtain ⟨c0, c1, c2⟩ := vCells_at l k _ (List.getElem?_eq_getElem hkn)
        obtain ⟨d0, d1, d2⟩ := vCells_at m k _ (List.getElem?_eq_getElem hkm)
        have g0 := (hcell (k * 3) (by omega)).trans c0
        have g1 := (hcell (k * 3 + 1) (by omega)).trans c1
        have g2 := (hcell (k * 3 + 2) (by omega)).trans c2
        have f0 := (hcell2 (k * 3) (by omega)).trans d0
        have f1 := (hcell2 (k * 3 + 1) (by omega)).trans d1
        have f2 := (hcell2 (k * 3 + 2) (by omega)).trans d2
        rw [← Nat.add_assoc] at g1 g2 f1 f2
        have e4 : l.take (k + 1) = l.take k ++ [l[k]] := List.take_succ_eq_append_getElem hkn
        have e5 : m.take (k + 1) = m.take k ++ [m[k]] := List.take_succ_eq_append_getElem hkm
        have hlm : l[k] = m[k] ∨ l ≠ m := by
          by_cases h : l[k] = m[k]
          · exact .inl h
          · refine .inr (fun e => h ?_)
            subst e; rfl
        have hve := v_eq l[k] m[k]
        generalize l[k] = x at *
        generalize m[k] = y at *
        obtain ⟨p, hp⟩ : ∃ p, veq6 x.k x.n x.s y.k y.n y.s = p := ⟨_, rfl⟩
        rw [hp] at hve
        obtain ⟨xk, xn, xs⟩ := x
        obtain ⟨yk, yn, ys⟩ := y
        dsimp only at g0 g1 g2 f0 f1 f2 hp
        clear hcell hcell2 c0 c1 c2 d0 d1 d2
        have HE4 := Lib.hid e4
        have HE5 := Lib.hid e5
        have HVE := Lib.hid hve
        have HLM := Lib.hid hlm
        clear e4 e5 hve hlm hkm
        have hnp : (!veq6 xk xn xs yk yn ys) = !p := by rw [hp]
        cases p with
        | true =>
          go_upto_region 6 with fail
          go_quiet (fail)
          go_wp2
          go_roundw
          case rel => exact ⟨k + 1, by go_num, by omega, Lib.hid (by rw [HE4.out, HE5.out, HE.out, HVE.out.1 rfl]), Lib.hid (below_drewN HB.out _)⟩
          case measure => simp [intOf]; omega
        | false =>
          go_upto_region 6 with fail
          go_quiet (fail)
          go_wp2
          go_ret
          refine ⟨ret_b (eqB_f ?_).symm, below_drewN HB.out _⟩
          rcases HLM.out with h2 | h2
          · exact absurd (HVE.out.2 h2) (by decide)
          · exact h2
      · have dk : ¬ (k : Int) < (l.length : Int) := by omega
        have he := HE.out
        rw [List.take_of_length_le (by omega), List.take_of_length_le (by rw [← HNE.out]; omega)] at he
        have HQ := Lib.hid he
        clear he
        go_wp2_with fail
        go_ret
        exact ⟨ret_b (eqB_t HQ.out).symm, HB.out⟩
  · have e1 : ((l.length : Int) != (m.length : Int)) = true := by simp; omega
    have HNE := Lib.hid hne
    clear hne
    go_enter Try.func36, Try.ntmps36
    go_wp2_with fail
    go_ret
    exact ⟨ret_b (eqB_f (fun h => HNE.out (congrArg List.length h))).symm, Below.refl _ _⟩
set_option maxRecDepth 100000 in
set_option maxHeartbeats 2000000 in
theorem same1_any (va vb : Value) (ca cb : Nat) (l m : List V) (hl : l.length ≤ 1000000) (hm : m.length ≤ 1000000) (w : World) (ha : IsRow w va l) (hb : IsRow w vb m) :
    Calls Try.prog 35 #[.agg #[va, .int .i64 (ca : Int)], .agg #[vb, .int .i64 (cb : Int)]] w fun e w' => e = .returned (.bool (eqB (l, ca) (m, cb))) ∧ Below w.heap.size w w' := by
  have HC := Lib.hid (fun W (hg : Below w.heap.size w W) => equal_any va vb l m hl hm W (ha.later hg) (hb.later hg))
  obtain ⟨a1, k1, rfl, -⟩ := ha
  obtain ⟨a2, k2, rfl, -⟩ := hb
  by_cases h : ca = cb
  · subst h
    generalize (ca : Int) = cz
    go_enter Try.func35, Try.ntmps35
    go_wp2_with (go_at_call 36; (with_reducible refine (HC.out _ (below_alloc2 _ _ _)).mono ?_); rintro e w1 ⟨rfl, hb2⟩; have HB2 := Lib.hid hb2; clear hb2)
    go_ret
    refine ⟨ret_b ?_, (below_alloc2 _ _ _).trans (HB2.out.mono (by simp only [World.size_alloc]; omega))⟩
    by_cases h : l = m
    · rw [eqB_t h, eqB_t (by rw [h])]
    · rw [eqB_f h, eqB_f (fun e => h (congrArg Prod.fst e))]
  · have e : ((ca : Int) == (cb : Int)) = false := by simp; omega
    have HN := Lib.hid h
    clear h
    go_enter Try.func35, Try.ntmps35
    go_wp2_with fail
    go_ret
    exact ⟨ret_b (eqB_f (fun e => HN.out (congrArg Prod.snd e))).symm, below_alloc2 _ _ _⟩
set_option maxRecDepth 100000 in
set_option maxHeartbeats 4000000 in
theorem eqf_any (a b : Option Addr) (ca cb : Nat) (xs ys : List (Value × Nat)) (o p : BL) (ho : o.length ≤ 1000000) (hp : p.length ≤ 1000000) (hso : Small o) (hsp : Small p) (w : World) (h1 : w.ownsRow 0 TS 2 (.slice a o.length ca) o.length (eCells xs)) (h2 : Smx w xs o) (h3 : w.ownsRow 0 TS 2 (.slice b p.length cb) p.length (eCells ys)) (h4 : Smx w ys p) :
    Calls Try.prog 34 #[.slice a o.length ca, .slice b p.length cb, .func (.func 35) #[] #[]] w fun e w' => e = .returned (.bool (eqB o p)) ∧ Below w.heap.size w w' := by
  have H1 := Lib.hid h1
  have H2 := Lib.hid h2
  have H3 := Lib.hid h3
  have H4 := Lib.hid h4
  have HSO := Lib.hid hso
  have HSP := Lib.hid hsp
  have hl0 : (0 : Int) ≤ (o.length : Int) := by omega
  have hl1 : (o.length : Int) ≤ 1000000 := by omega
  have hm0 : (0 : Int) ≤ (p.length : Int) := by omega
  clear h1 h2 h3 h4 hso hsp
  by_cases hne : o.length = p.length
  · have e1 : ((o.length : Int) != (p.length : Int)) = false := by simp; omega
    have HNE := Lib.hid hne
    clear hne
    go_enter Try.func34, Try.ntmps34
    go_wp2_with fail
    go_loopw [17] (fun iv wr => ∃ k : Nat, iv = .int .i64 (k : Int) ∧ k ≤ o.length ∧ Hid (o.take k = p.take k) ∧ Hid (Below w.heap.size w wr)) (fun iv _ => o.length - (intOf iv).toNat)
    case atStart => exact ⟨0, rfl, Nat.zero_le _, Lib.hid rfl, Lib.hid (Below.refl _ _)⟩
    case round =>
      obtain ⟨k, rfl, hk, HE, HB⟩ := hrel
      have hd0 : (0 : Int) ≤ (k : Int) := by omega
      by_cases hkn : k < o.length
      · have dk : (k : Int) < (o.length : Int) := by omega
        have hkm : k < p.length := by rw [← HNE.out]; exact hkn
        have dkm : (k : Int) < (p.length : Int) := by omega
        obtain ⟨gA, ua, uc, rfl, hgA, hrA, hcA⟩ := bag_at H1.out H2.out k hkn
        obtain ⟨gB, va, vc, rfl, hgB, hrB, hcB⟩ := bag_at H3.out H4.out k hkm
        obtain ⟨c0, c1⟩ := hcA _ HB.out
        obtain ⟨d0, d1⟩ := hcB _ HB.out
        have e4 : o.take (k + 1) = o.take k ++ [o[k]] := List.take_succ_eq_append_getElem hkn
        have e5 : p.take (k + 1) = p.take k ++ [p[k]] := List.take_succ_eq_append_getElem hkm
        have hlm : o[k] = p[k] ∨ o ≠ p := by
          by_cases h : o[k] = p[k]
          · exact .inl h
          · refine .inr (fun e => h ?_)
            subst e; rfl
        have so := HSO.out _ (List.getElem_mem hkn)
        have sp := HSP.out _ (List.getElem_mem hkm)
        generalize o[k] = x at *
        generalize p[k] = y at *
        obtain ⟨r, d⟩ := x
        obtain ⟨s, f⟩ := y
        simp only at c0 c1 d0 d1 so sp hrA hrB
        have HC := Lib.hid (fun W (hg : Below wr.heap.size wr W) => same1_any (.slice ua r.length uc) (.slice va s.length vc) d f r s so sp W (((Row.of_owns hrA).later HB.out).later hg) (((Row.of_owns hrB).later HB.out).later hg))
        have hzA : gA < wr.heap.size := Nat.lt_of_lt_of_le hgA HB.out.size
        have hzB : gB < wr.heap.size := Nat.lt_of_lt_of_le hgB HB.out.size
        have HE4 := Lib.hid e4
        have HE5 := Lib.hid e5
        have HLM := Lib.hid hlm
        clear e4 e5 hlm hkm hcA hcB hrA hrB
        obtain ⟨q, hq⟩ : ∃ q, eqB (r, d) (s, f) = q := ⟨_, rfl⟩
        rw [hq] at HC
        have HQ := Lib.hid hq
        clear hq
        have hdz : (0 : Int) ≤ (d : Int) := by omega
        cases q with
        | true =>
          go_wp2_with (go_at_call 35; (with_reducible refine (HC.out _ (below_alloc2 _ _ _)).mono ?_); rintro e w1 ⟨rfl, hb2⟩; have HB2 := Lib.hid (HB.out.trans (((below_alloc2 wr _ _).trans (hb2.mono (by simp only [World.size_alloc]; omega))).mono HB.out.size)); clear hb2)
          have hxy : (r, d) = (s, f) := by
            rcases HLM.out with h | h
            · exact h
            · by_cases h2 : (r, d) = (s, f)
              · exact h2
              · rw [eqB_f h2] at HQ; exact absurd HQ.out (by decide)
          go_roundw
          case rel => exact ⟨k + 1, by go_num, by omega, Lib.hid (by rw [HE4.out, HE5.out, HE.out, hxy]), HB2⟩
          case measure => simp [intOf]; omega
        | false =>
          go_wp2_with (go_at_call 35; (with_reducible refine (HC.out _ (below_alloc2 _ _ _)).mono ?_); rintro e w1 ⟨rfl, hb2⟩; have HB2 := Lib.hid (HB.out.trans (((below_alloc2 wr _ _).trans (hb2.mono (by simp only [World.size_alloc]; omega))).mono HB.out.size)); clear hb2)
          go_ret
          refine ⟨ret_b (eqB_f ?_).symm, HB2.out⟩
          rcases HLM.out with h | h
          · rw [eqB_t h] at HQ; exact absurd HQ.out (by decide)
          · exact h
      · have dk : ¬ (k : Int) < (o.length : Int) := by omega
        have he := HE.out
        rw [List.take_of_length_le (by omega), List.take_of_length_le (by rw [← HNE.out]; omega)] at he
        have HQ := Lib.hid he
        clear he
        go_wp2_with fail
        go_ret
        exact ⟨ret_b (eqB_t HQ.out).symm, HB.out⟩
  · have e1 : ((o.length : Int) != (p.length : Int)) = true := by simp; omega
    have HNE := Lib.hid hne
    clear hne
    go_enter Try.func34, Try.ntmps34
    go_wp2_with fail
    go_ret
    exact ⟨ret_b (eqB_f (fun h => HNE.out (congrArg List.length h))).symm, Below.refl _ _⟩
end Go.Proofs.Ytpkkhbmlclicfaa.val
/- Same; a bag with each row once; walked. -/
namespace Go.Proofs.Ytpkkhbmlclicfaa.val
set_option linter.unusedVariables false
open Go.RowKit Go.Sort
set_option maxRecDepth 100000 in
set_option maxHeartbeats 2000000 in
theorem same_any (va vb : Value) (o p : BL) (ho : o.length ≤ 1000000) (hp : p.length ≤ 1000000) (w : World) (ha : IsBag w va o) (hb : IsBag w vb p) :
    Calls Try.prog 16 #[va, vb] w fun e w' => e = .returned (.bool (eqB o p)) ∧ Below w.heap.size w w' := by
  obtain ⟨a, ca, xs, rfl, h1, h2, -, -, hso⟩ := ha
  obtain ⟨b, cb, ys, rfl, h3, h4, -, -, hsp⟩ := hb
  have HE := Lib.hid (fun W (hg : Below w.heap.size w W) => eqf_any a b ca cb xs ys o p ho hp hso hsp W (owns_below h1 hg) (h2.later hg) (owns_below h3 hg) (h4.later hg))
  generalize eqB o p = R at *
  clear h1 h2 h3 h4
  go_enter Try.func16, Try.ntmps16
  go_wp2_with (go_at_call 34; (with_reducible refine (HE.out _ (below_alloc2 _ _ _)).mono ?_); rintro e w1 ⟨rfl, hb2⟩; have HB2 := Lib.hid hb2; clear hb2)
  go_ret
  exact ⟨rfl, (below_alloc2 _ _ _).trans (HB2.out.mono (by simp only [World.size_alloc]; omega))⟩
/-- each row once -/
def ones (o : BL) : BL := o.map fun x => (x.1, 1)
theorem ones_snoc (o : BL) (x : List V × Nat) : ones (o ++ [x]) = ones o ++ [(x.1, 1)] := by unfold ones; rw [List.map_append]; rfl
theorem ones_strict {o : BL} (h : Strict o) : Strict (ones o) := by
  refine ⟨?_, fun x hx => ?_⟩
  · unfold ones
    rw [List.pairwise_map]
    exact h.1
  · obtain ⟨y, _, rfl⟩ := List.mem_map.1 hx
    exact Nat.one_pos
set_option maxRecDepth 100000 in
set_option maxHeartbeats 4000000 in
theorem distinct_any (bv : Value) (o : BL) (hn : o.length ≤ 1000000) (w : World) (h : IsBag w bv o) :
    Calls Try.prog 15 #[bv] w fun e w' => ∃ v, e = .returned v ∧ IsBag w' v (ones o) ∧ Below w.heap.size w w' := by
  obtain ⟨i0, hi, hz0, hz1, hz2⟩ := info_parts infoTs
  obtain ⟨a, c, xs, rfl, ho, hs, hst, hgd, hsl⟩ := h
  obtain ⟨W1, hW1⟩ : ∃ W1, (w.alloc (.cells #[.slice a o.length c] TB)).alloc (.cells #[.slice none 0 0] TB) = W1 := ⟨_, rfl⟩
  have hb1 : Below w.heap.size w W1 := by rw [← hW1]; exact below_alloc2 _ _ _
  have hfb : Flds W1 w.heap.size TB [.slice a o.length c] := by rw [← hW1]; exact (Flds.new w TB [.slice a o.length c]).alloc _
  have hfl : Flds W1 (w.heap.size + 1) TB [.slice none 0 0] := by
    rw [← hW1]
    have h := Flds.new (w.alloc (.cells #[.slice a o.length c] TB)) TB [.slice none 0 0]
    rwa [World.size_alloc] at h
  have HO := Lib.hid (owns_below ho hb1)
  have HS := Lib.hid (hs.later hb1)
  have HB1 := Lib.hid hb1
  have HFL := Lib.hid hfl
  have HFB := Lib.hid hfb
  have HST := Lib.hid (ones_strict hst)
  have HGD : Hid (GoodB (ones o) ∧ Small (ones o)) := Lib.hid ⟨fun x hx => by
    obtain ⟨y, hy, rfl⟩ := List.mem_map.1 hx
    exact hgd y hy, fun x hx => by
    obtain ⟨y, hy, rfl⟩ := List.mem_map.1 hx
    exact hsl y hy⟩
  have hn0 : (0 : Int) ≤ (o.length : Int) := by omega
  have hn1 : (o.length : Int) ≤ 1000000 := by omega
  have hg1 : w.heap.size ≤ w.heap.size + 1 := Nat.le_succ _
  clear ho hs hb1 hfl hfb hst hgd hsl
  go_enter Try.func15, Try.ntmps15
  go_upto_region 1 with fail
  clear hW1
  obtain ⟨g0, hg0⟩ : ∃ g0, w.heap.size + 1 = g0 := ⟨_, rfl⟩
  obtain ⟨g1, hg1'⟩ : ∃ g1, w.heap.size = g1 := ⟨_, rfl⟩
  rw [hg0] at HFL ⊢
  rw [hg1'] at HFB ⊢
  have q0 := HFB.out.cell 0
  simp only [List.getElem?_cons_zero] at q0
  have ql := HFB.out.lt
  go_wp2_with fail
  go_loopw [3, 9] (fun sv iv wr => ∃ (k : Nat) (aa : Option Addr) (cc : Nat) (ys : List (Value × Nat)), sv = .slice aa k cc ∧ iv = .int .i64 (k : Int) ∧ k ≤ o.length ∧ Hid (ys.length = k) ∧ Hid (wr.ownsRow W1.heap.size TS 2 sv k (eCells ys)) ∧ Hid (Smx wr ys (ones (o.take k))) ∧ Hid (Below W1.heap.size W1 wr)) (fun _ iv _ => o.length - (intOf iv).toNat)
  case atStart => exact ⟨0, none, 0, [], rfl, rfl, Nat.zero_le _, Lib.hid rfl, Lib.hid (World.ownsRow_nil _ _ _ _), Lib.hid (Smx.nil _), Lib.hid (Below.refl _ _)⟩
  case round =>
    obtain ⟨k, aa, cc, ys, rfl, rfl, hk, HXL, HOW, HSW, HB⟩ := hrel
    have hd0 : (0 : Int) ≤ (k : Int) := by omega
    by_cases hkn : k < o.length
    · have dk : (k : Int) < (o.length : Int) := by omega
      obtain ⟨g, ua, uc, rfl, hgl, hru, hc⟩ := bag_at HO.out HS.out k hkn
      obtain ⟨c0, c1⟩ := hc _ HB.out
      have hglt : g < wr.heap.size := Nat.lt_of_lt_of_le hgl HB.out.size
      have htk : o.take (k + 1) = o.take k ++ [o[k]] := List.take_succ_eq_append_getElem hkn
      generalize o[k] = x at *
      obtain ⟨r, d⟩ := x
      simp only at c0 c1 hru
      have hal := below_alloc1 wr (.cells #[.slice ua r.length uc, .int .i64 (d : Int)] TS)
      have HTK := Lib.hid htk
      have HOT := Lib.hid (HOW.out.alloc (.cells #[.slice ua r.length uc, .int .i64 (d : Int)] TS))
      have HST3 := Lib.hid (HSW.out.later hal)
      have HR3 := Lib.hid (owns_below (owns_below hru HB.out) hal)
      have HB3 := Lib.hid (HB.out.trans (hal.mono HB.out.size))
      have HF5 := Lib.hid (Flds.new wr TS [.slice ua r.length uc, .int .i64 (d : Int)])
      clear hc hru htk hal HOW HSW
      go_upto_region 5 with fail
      generalize wr.alloc (.cells #[.slice ua r.length uc, .int .i64 (d : Int)] TS) = w3 at *
      generalize wr.heap.size = g5 at *
      clear c0 c1
      have c0 := HF5.out.cell 0
      simp only [List.getElem?_cons_zero] at c0
      have hl5 : g5 < w3.heap.size := HF5.out.lt
      have hown3 := HOT.out
      go_wp2_with (at_builtin; refine wpList_append_own _ rfl _ _ 28 rfl W1.heap.size TS i0 (.agg #[.slice none 0 0, .int .i64 0]) 2 32 Try.underlying28 hi hz0 hz1 hz2 rfl (by decide) _ _ _ rfl (hown3.alloc _) ⟨w3.heap.size, 0, none⟩ 1 1 [.slice ua r.length uc, .int .i64 1] rfl rfl (cells_new_add' w3 [.slice ua r.length uc, .int .i64 1] TS) (two_cells _ _ _ _ _ rfl) (by unfold maxLen; omega) (by omega) (by have := HB3.out.size; simp only [World.size_alloc]; omega) ?_; intro v' w5 hown' hgrow _)
      have hgr' : (w3.alloc (.cells #[.slice ua r.length uc, .int .i64 1] TS)).grownBy w5 (Value.slice aa k cc).ownBlock := hgrow
      have hal := below_alloc1 w3 (.cells #[.slice ua r.length uc, .int .i64 1] TS)
      have hS5 := (HST3.out.later hal).kept hgr' ((HST3.out.later hal).apart (hown3.alloc (.cells #[.slice ua r.length uc, .int .i64 1] TS)) (by decide))
      have hR5 := (HR3.out.alloc (.cells #[.slice ua r.length uc, .int .i64 1] TS)).kept hgr' (owns_ne_owns (HR3.out.alloc (.cells #[.slice ua r.length uc, .int .i64 1] TS)) (hown3.alloc (.cells #[.slice ua r.length uc, .int .i64 1] TS)) (by decide))
      have HB5 := Lib.hid ((HB3.out.alloc HB3.out.size (.cells #[.slice ua r.length uc, .int .i64 1] TS)).grown hgr' (by have := HB3.out.size; simp only [World.size_alloc]; omega) (fun j hj => (hown3.lt j hj).1))
      have HS5 := Lib.hid (hS5.snoc (c := 1) hR5)
      obtain ⟨a5, c5, rfl⟩ := owns_shape hown'
      have HO5 := Lib.hid hown'
      clear hgr' hgrow hown' hS5 hR5 hal hown3
      go_wp2_with fail
      go_roundw
      case rel => exact ⟨k + 1, a5, c5, ys ++ [(.slice ua r.length uc, 1)], rfl, by go_num, by omega, Lib.hid (by rw [List.length_append, HXL.out]; rfl), Lib.hid (by rw [eCells_snoc]; exact HO5.out), Lib.hid (by rw [HTK.out, ones_snoc]; exact HS5.out), HB5⟩
      case measure => simp [intOf]; omega
    · have dk : ¬ (k : Int) < (o.length : Int) := by omega
      have hkk : k = o.length := by omega
      have htk : ones (o.take k) = ones o := by rw [List.take_of_length_le (by omega)]
      have hsx := HSW.out
      rw [htk] at hsx
      have hol : (ones o).length = k := by rw [hkk]; unfold ones; rw [List.length_map]
      have hfr := HFL.out.later HB.out
      have q1 := hfr.cell 0
      have qf := hfr.frozen 0
      simp only [List.getElem?_cons_zero] at q1
      have ql1 := hfr.lt
      have hng : (Value.slice aa k cc).ownBlock ≠ some g0 := fun e => by have := (HOW.out.lt _ e).1; have := HFL.out.lt; omega
      have hbag : IsBag wr (.agg #[.slice aa k cc]) (ones o) := ⟨aa, cc, ys, by rw [hol], by rw [hol]; exact owns_base HOW.out (fun g hg => Nat.zero_le _), hsx, HST.out, HGD.out.1, HGD.out.2⟩
      have HBAG := Lib.hid (hbag.setObj hfr 0 (.slice aa k cc))
      have HBE := Lib.hid ((HB1.out.trans (HB.out.mono HB1.out.size)).setCell (p := ⟨g0, 0, none⟩) (by rw [← hg0]; exact Nat.le_succ _) (.slice aa k cc))
      clear hkk htk hsx hol hfr hng hbag
      go_wp2_with fail
      refine bodyPost_ret (v := .agg #[.slice aa k cc]) ?_ (by rfl) ⟨_, rfl, HBAG.out, by first | exact HBE.out | (rw [← hg1']; exact HBE.out)⟩
      simp only [results, Try.results15]; go_simp
end Go.Proofs.Ytpkkhbmlclicfaa.val
/- Two rows that a call owns, both appended to in one region whose order is open: words for what each step keeps. No program. -/
namespace Go.Proofs.Ytpkkhbmlclicfaa
set_option linter.unusedVariables false
open Go.RowKit
/-- a new block that is about to be appended -/
def tBox (X : World) (e : TypeId) (m : Nat) (cs : List Value) (v : Value) (W : World) : Prop := ∃ g, v = .slice (some ⟨g, 0, none⟩) m m ∧ Flds W g e cs ∧ X.heap.size ≤ g
/-- what an append onto u has left -/
def tNew (B : Nat) (X : World) (u : Value) (e : TypeId) (size n : Nat) (xs : List Value) (v : Value) (W : World) : Prop := (∃ a cap, v = .slice a n cap) ∧ W.ownsRow B e size v n xs ∧ (∀ g, v.ownBlock = some g → u.ownBlock = some g ∨ X.heap.size ≤ g)
/-- the step of an append onto v -/
def tAp (B : Nat) (v : Value) (e : TypeId) (size n : Nat) (xs : List Value) (W W' : World) : Prop := W'.ownsRow B e size v n xs ∧ W.grownBy W' v.ownBlock
/-- two rows, as they were; nothing else has turned -/
def Two (B : Nat) (X : World) (va : Value) (ea : TypeId) (sa na : Nat) (xa : List Value) (vb : Value) (eb : TypeId) (sb nb : Nat) (xb : List Value) (W : World) : Prop :=
  Only (fun k => va.ownBlock = some k ∨ vb.ownBlock = some k) X W ∧ W.ownsRow B ea sa va na xa ∧ W.ownsRow B eb sb vb nb xb
theorem tBox.later {X W W' : World} {e : TypeId} {m : Nat} {cs : List Value} {v : Value} (h : tBox X e m cs v W) (hb : Below W.heap.size W W') : tBox X e m cs v W' := by
  obtain ⟨g, h1, h2, h3⟩ := h
  exact ⟨g, h1, h2.later hb, h3⟩
theorem tBox.far {X W W' : World} {e e' : TypeId} {m B size n : Nat} {cs xs : List Value} {u v : Value} (h : tBox X e m cs v W) (hg : tAp B u e' size n xs W W') (hu : ∀ g, u.ownBlock = some g → g < X.heap.size) : tBox X e m cs v W' := by
  obtain ⟨g, h1, h2, h3⟩ := h
  exact ⟨g, h1, h2.grown hg.2 (fun e => by have := hu g e.symm; omega), h3⟩
theorem tNew.later {B size n : Nat} {X W W' : World} {e : TypeId} {xs : List Value} {u v : Value} (h : tNew B X u e size n xs v W) (hb : Below W.heap.size W W') : tNew B X u e size n xs v W' := ⟨h.1, owns_below h.2.1 hb, h.2.2⟩
theorem tNew.far {B B' size size' n n' : Nat} {X W W' : World} {e e' : TypeId} {xs xs' : List Value} {u u' v : Value} (h : tNew B X u e size n xs v W) (hg : tAp B' u' e' size' n' xs' W W') (hap : ∀ g, u.ownBlock = some g → u'.ownBlock ≠ some g) (hu : ∀ g, u'.ownBlock = some g → g < X.heap.size) : tNew B X u e size n xs v W' := by
  refine ⟨h.1, h.2.1.kept hg.2 ?_, h.2.2⟩
  cases hv : v.ownBlock with
  | none => exact .inl rfl
  | some g =>
    refine .inr fun e => ?_
    rcases h.2.2 g hv with h1 | h1
    · exact hap g h1 e.symm
    · have := hu g e.symm; omega
theorem apart_or {u v : Value} (hap : ∀ g, u.ownBlock = some g → v.ownBlock ≠ some g) : u.ownBlock = none ∨ u.ownBlock ≠ v.ownBlock := by
  cases hv : u.ownBlock with
  | none => exact .inl rfl
  | some g => exact .inr fun e => hap g hv e.symm
theorem Two.later {B sa na sb nb : Nat} {X W W' : World} {ea eb : TypeId} {xa xb : List Value} {va vb : Value} (h : Two B X va ea sa na xa vb eb sb nb xb W) (hb : Below W.heap.size W W') : Two B X va ea sa na xa vb eb sb nb xb W' :=
  ⟨h.1.trans (Only.of_below (own := fun _ => False) hb) (fun _ _ h => h.elim), owns_below h.2.1 hb, owns_below h.2.2 hb⟩
theorem Two.apa {B sa na sb nb : Nat} {X W W' : World} {ea eb : TypeId} {xa xb : List Value} {va vb : Value} (h : Two B X va ea sa na xa vb eb sb nb xb W) (hap : ∀ g, va.ownBlock = some g → vb.ownBlock ≠ some g) (ht : tAp B va ea sa na xa W W') : Two B X va ea sa na xa vb eb sb nb xb W' :=
  ⟨h.1.grown ht.2 (fun k e _ => .inl e), ht.1, h.2.2.kept ht.2 (apart_or (fun g h1 h2 => hap g h2 h1))⟩
theorem Two.apb {B sa na sb nb : Nat} {X W W' : World} {ea eb : TypeId} {xa xb : List Value} {va vb : Value} (h : Two B X va ea sa na xa vb eb sb nb xb W) (hap : ∀ g, va.ownBlock = some g → vb.ownBlock ≠ some g) (ht : tAp B vb eb sb nb xb W W') : Two B X va ea sa na xa vb eb sb nb xb W' :=
  ⟨h.1.grown ht.2 (fun k e _ => .inr e), h.2.1.kept ht.2 (apart_or hap), ht.1⟩
theorem tNew.of {B size n m : Nat} {X w w' : World} {e : TypeId} {u v' : Value} {xs news : List Value} (h : Appended B e size u n m xs news w v' w') (hX : X.heap.size ≤ w.heap.size) : tNew B X u e size (n + m) (xs ++ news) v' w' ∧ tAp B u e size n xs w w' := by
  refine ⟨⟨h.form, h.own, fun g hv => ?_⟩, h.old, h.grown⟩
  rcases h.lies with h | h | h
  · rw [h] at hv; cases hv
  · rw [h] at hv; exact .inl hv
  · rw [h] at hv; cases hv; exact .inr hX
/-- Two rows of unlike elements lie apart. -/
theorem apart_types {w : World} {B B' : Nat} {e e' : TypeId} {k k' : Nat} {v v' : Value} {n n' : Nat} {xs xs' : List Value} (h : w.ownsRow B e k v n xs) (h' : w.ownsRow B' e' k' v' n' xs') (he : e ≠ e') : ∀ g, v.ownBlock = some g → v'.ownBlock ≠ some g := by
  intro g hg hg'
  rcases owns_ne_owns h h' he with h1 | h1
  · rw [h1] at hg; cases hg
  · rw [hg, hg'] at h1; exact h1 rfl
end Go.Proofs.Ytpkkhbmlclicfaa
