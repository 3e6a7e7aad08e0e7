/- A copy of a row; rows sorted by the program: walked. -/
import Derived.OwnWalk
import Derived.Test.YtpkkhbmlclicfaaDoorRowF
import Derived.Test.YtpkkhbmlclicfaaDoorRowI
namespace Go.Proofs.YtpkkhbmlclicfaaDoor.val
set_option linter.unusedVariables false
open Go.RowKit

set_option maxRecDepth 100000 in
set_option maxHeartbeats 2000000 in
theorem clone_some (p : Addr) (cap : Nat) (l : List V) (hl : l.length ≤ 1000000) (w : World) (hv : IsRow w (.slice (some p) l.length cap) l) :
    Calls Tryd.prog 56 #[.slice (some p) l.length cap] w fun e w' => ∃ v', e = .returned v' ∧ w'.ownsRow w.heap.size TV 3 v' l.length (vCells l) ∧ Below w.heap.size w w' := by
  obtain ⟨i0, hi, hz0, hz1, hz2⟩ := info_parts infoV
  have HV := Lib.hid hv
  clear hv
  have hnil := fun (w : World) => Lib.run_eql_slice_nil (P := Tryd.prog) w 54 26 (some p) l.length cap 0 0 Tryd.underlying54
  have hfl := Lib.hid (Flds.new w TV [])
  have h63 : 0 + l.length ≤ maxLen := by unfold maxLen; omega
  have h64 : (0 + l.length) * 32 ≤ 140737488355328 := by omega
  have HR1 := Lib.hid (HV.out.later (below_alloc1 w (.cells #[] TV)))
  have HOW := Lib.hid (owns_of_flds (m := 0) (size := 3) (base := w.heap.size) hfl.out rfl (Nat.le_refl _) (by decide))
  go_enter Tryd.func56, Tryd.ntmps56
  go_wp2_with (at_builtin; refine wpList_append_row _ rfl _ _ 54 rfl w.heap.size TV i0 (ag3 0 0 ⟨#[]⟩) 3 32 Tryd.underlying54 hi hz0 hz1 hz2 rfl (by decide) (.slice (some ⟨w.heap.size, 0, none⟩) 0 0) 0 [] rfl HOW.out _ l.length (vCells l) rfl HR1.out (vCells_one l) h63 h64 (by simp) ?_; intro a' cap' w' hap)
  have HAP := Lib.hid hap
  clear hap
  go_wp2_with fail
  go_ret
  obtain ⟨-, hown, -, hgr, -, -, -, -, -⟩ := HAP.out
  rw [Nat.zero_add, List.nil_append] at hown
  exact ⟨_, rfl, hown, ((below_alloc1 w _).grown hgr (by simp) (fun j hj => by cases hj; exact Nat.le_refl _))⟩
theorem clone_nil (w : World) :
    Calls Tryd.prog 56 #[.slice none 0 0] w fun e w' => e = .returned (.slice none 0 0) ∧ w = w' := by
  have hnil := fun (w : World) => Lib.run_eql_slice_nil (P := Tryd.prog) w 54 26 none 0 0 0 0 Tryd.underlying54
  go_enter Tryd.func56, Tryd.ntmps56
  go_wp2_with fail
  go_ret
  exact ⟨rfl, rfl⟩

theorem clone_any (v : Value) (l : List V) (hl : l.length ≤ 1000000) (w : World) (hv : IsRow w v l) (hs : ∀ n c, v = .slice none n c → c = 0) :
    Calls Tryd.prog 56 #[v] w fun e w' => ∃ v', e = .returned v' ∧ w'.ownsRow w.heap.size TV 3 v' l.length (vCells l) ∧ Below w.heap.size w w' := by
  obtain ⟨a, cap, rfl, hlen, h⟩ := hv
  cases a with
  | none =>
    have h0 : l.length = 0 := by
      rcases h with h | ⟨b, off, e, -⟩
      · exact h
      · cases e
    have hc := hs _ _ rfl
    subst hc
    have hl0 : l = [] := List.length_eq_zero_iff.1 h0
    subst hl0
    refine (clone_nil w).mono ?_
    rintro e w' ⟨he, rfl⟩
    exact ⟨_, he, World.ownsRow_nil _ _ _ _, Below.refl _ _⟩
  | some p => exact clone_some p cap l hl w ⟨some p, cap, rfl, hlen, h⟩
theorem sort_none (w : World) (p : Option Addr) (cap : Nat) : Calls Tryd.prog 57 #[.slice p 0 cap, .func (.func 31) #[] #[]] w fun e w' => e = .returned (.tuple #[]) ∧ w' = w := by
  have h := AnyF.slices_SortFunc_none (P := Tryd.prog) (ρ := Tryd.sortL_ren) { Tryd.sortL with } p cap (.func (.func 31) #[] #[]) w
  exact h

set_option maxRecDepth 100000 in
set_option maxHeartbeats 4000000 in
theorem sort_any (v : Value) (vs : List Value) (ls : List (List V)) (hn : vs.length ≤ 1000) (hg : ∀ l ∈ ls, Goods l) (hl : ∀ l ∈ ls, l.length ≤ 1000000) (w : World) (hv : Row w v 1 vs.length vs) (hr : Rws w vs ls) (hnil : ∀ u ∈ vs, ∀ n c, u = .slice none n c → c = 0) :
    Calls Tryd.prog 32 #[v] w (SortPost vs.length ls w) := by
  obtain ⟨i0, hi, hz0, hz1, hz2⟩ := info_parts infoRow
  have HR := Lib.hid hr
  have HG := Lib.hid hg
  have HL := Lib.hid hl
  have HLL := Lib.hid hr.1
  have HNI := Lib.hid hnil
  have HV := Lib.hid hv
  obtain ⟨a, cap, rfl, -⟩ := hv
  obtain ⟨n, hnn⟩ : ∃ n, vs.length = n := ⟨_, rfl⟩
  have HN := Lib.hid hnn
  have hn' : n ≤ 1000 := by omega
  rw [hnn]
  have HV2 : Hid (Row w (.slice a n cap) 1 n vs) := Lib.hid (by rw [← hnn]; exact HV.out)
  have hn0 : (0 : Int) ≤ (n : Int) := by omega
  have hn1 : (n : Int) ≤ 1000 := by omega
  clear hg hl hr hn hnn HV hnil
  go_enter Tryd.func32, Tryd.ntmps32
  go_upto_block 0 with (at_make; refine wpList_make_own _ rfl _ _ 51 rfl w.heap.size 54 i0 (.slice none 0 0) 1 Tryd.underlying51 hi hz0 hz1 .i64 .i64 _ n rfl rfl rfl (by rw [hz2]; omega) (by unfold maxLen; omega) (Nat.le_refl _) ?_; intro w0 hown0 hgrow0)
  have hB0 := below_grown hgrow0
  have HO0 := Lib.hid hown0
  have HB0 := Lib.hid hB0
  clear hown0 hgrow0 hB0
  go_cut [3] from 5 to 20 (fun sv wx => ∃ (a2 : Option Addr) (c2 : Nat) (us : List Value), sv = .slice a2 n c2 ∧ Hid (us.length = n) ∧ Hid (wx.ownsRow w.heap.size 54 1 sv n us) ∧ Hid (Rwo w.heap.size wx us ls) ∧ Hid (Below w.heap.size w wx))
  case first =>
    go_wp2_with fail
    go_loopw [3, 11] (fun sv i wr => ∃ (k : Nat) (a2 : Option Addr) (c2 : Nat) (us : List Value), sv = .slice a2 k c2 ∧ i = .int .i64 (k : Int) ∧ k ≤ n ∧ Hid (us.length = k) ∧ Hid (wr.ownsRow w.heap.size 54 1 sv k us) ∧ Hid (Rwo w.heap.size wr us (ls.take k)) ∧ Hid (Below w.heap.size w wr)) (fun _ i _ => n - (intOf i).toNat)
    case atStart => exact ⟨0, _, _, [], rfl, rfl, by omega, Lib.hid rfl, HO0, Lib.hid (RwT.nil _ _ _), HB0⟩
    case round =>
      obtain ⟨k, a2, c2, us, rfl, rfl, hk, HU, HO, HW, HB⟩ := hrel
      have hd0 : (0 : Int) ≤ (k : Int) := by omega
      by_cases h1 : k < n
      · have d1 : (k : Int) < (n : Int) := by omega
        obtain ⟨b, off, cap', ea, hcell⟩ := (HV2.out.later HB.out).pos (by omega)
        simp only [Value.slice.injEq] at ea
        obtain ⟨rfl, -, rfl⟩ := ea
        have hkv : k < vs.length := by rw [HN.out]; exact h1
        have hkl : k < ls.length := by rw [← HLL.out]; exact hkv
        have g0 : wr.cell? ⟨b, off + k, none⟩ = some vs[k] := (hcell k (by omega)).trans (List.getElem?_eq_getElem hkv)
        have HXr := Lib.hid ((HR.out.2 k _ _ (List.getElem?_eq_getElem hkv) (List.getElem?_eq_getElem hkl)).later HB.out)
        have HXn := Lib.hid (HNI.out _ (List.getElem_mem hkv))
        have hXl := HL.out _ (List.getElem_mem hkl)
        have HTK := Lib.hid (List.take_succ_eq_append_getElem hkl)
        have hn15 := hn'
        generalize vs[k] = U at *
        generalize ls[k] = X at *
        have HCL := Lib.hid (clone_any U X hXl wr HXr.out HXn.out)
        have hb0 := HB.out.size
        clear hcell
        go_wp2_with (first | (go_at_call 56; (with_reducible refine (HCL.out).mono ?_); rintro e w1 ⟨v1, rfl, ho1, hb1⟩; obtain ⟨a1, c1, rfl⟩ := owns_shape ho1; have HO1 := Lib.hid ho1; have HB1 := Lib.hid hb1; have hsz1 := hb1.size; have hown1 := owns_below HO.out hb1; clear ho1 hb1) | (at_builtin; refine wpList_append_own _ rfl _ _ 51 rfl w.heap.size 54 i0 (.slice none 0 0) 1 24 Tryd.underlying51 hi hz0 hz1 hz2 rfl (by decide) _ _ _ rfl (hown1.alloc _) ⟨w1.heap.size, 0, none⟩ 1 1 [.slice a1 X.length c1] rfl rfl (cell_one_new _ _ _) ?c2 ?c3 ?c4 ?c5 ?_))
        case c2 => intro u hu; simp at hu; subst hu; rfl
        case c3 => unfold maxLen; omega
        case c4 => omega
        case c5 => simp only [World.size_alloc]; omega
        intro v' w2 hown' hgrow _
        obtain ⟨a3, c3, rfl⟩ := owns_shape hown'
        have hBA : Below w.heap.size w (w1.alloc (.cells #[.slice a1 X.length c1] 54)) := (HB.out.trans (HB1.out.mono hb0)).alloc (by omega) _
        have hB2 : Below w.heap.size w w2 := hBA.grown hgrow (by simp only [World.size_alloc]; omega) (fun k hk => (hown1.lt k hk).1)
        have hrw : Rwo w.heap.size (w1.alloc (.cells #[.slice a1 X.length c1] 54)) (us ++ [.slice a1 X.length c1]) (ls.take k ++ [X]) := ((HW.out.later HB1.out).snoc (owns_base HO1.out (fun g hg => Nat.le_trans hb0 (HO1.out.lt g hg).1))).later (below_alloc1 _ _)
        have HRW := Lib.hid (hrw.grown hgrow (hrw.apart (hown1.alloc _) (by decide)))
        have HO2 := Lib.hid hown'
        have HB2 := Lib.hid hB2
        clear hown1 hown' hgrow hB2 hBA hrw
        go_wp2
        go_roundw
        case rel => exact ⟨k + 1, a3, c3, _, rfl, by go_num, by omega, Lib.hid (by rw [List.length_append, HU.out]; rfl), HO2, Lib.hid (by rw [HTK.out]; exact HRW.out), HB2⟩
        case measure => simp [intOf]; omega
      · have d1 : ¬ (k : Int) < (n : Int) := by omega
        have hk2 : k = n := by omega
        subst hk2
        go_wp2_with fail
        go_meet
        have hW := HW.out
        rw [List.take_of_length_le (by rw [← HLL.out, HN.out]; exact Nat.le_refl _)] at hW
        exact ⟨a2, c2, us, rfl, HU, HO, Lib.hid hW, HB⟩
  case rest =>
    obtain ⟨a2, c2, us, rfl, HU, HO, HW, HB⟩ := hcut
    by_cases hz : n = 0
    · subst hz
      have HS := Lib.hid (fun W => sort_none W a2 c2)
      have hu0 : us = [] := List.length_eq_zero_iff.1 HU.out
      have hl0 : ls = [] := List.length_eq_zero_iff.1 (by rw [← HLL.out, HN.out])
      have HX := Lib.hid (Row.of_owns HO.out)
      go_wp2_with (go_at_call 57; (with_reducible refine (HS.out _).mono ?_); rintro e w1 ⟨rfl, rfl⟩)
      go_ret
      exact ⟨a2, c2, us, ls, rfl, HU.out, HX.out, HW.out.rws, List.Perm.refl _, by rw [hl0]; exact List.Pairwise.nil, HB.out⟩
    · have HS := Lib.hid (sortf_any w.heap.size n (.slice a2 n c2) us ls wc HU.out (by omega) (by omega) HG.out HL.out HO.out HW.out)
      go_wp2_with (go_at_call 57; (with_reducible refine (HS.out).mono ?_); rintro e w1 ⟨rfl, vs', ls', p1, p2, p3, p4, p5, p6⟩; have P1 := Lib.hid p1; have P2 := Lib.hid p2; have P3 := Lib.hid p3; have P4 := Lib.hid p4; have P5 := Lib.hid p5; have P6 := Lib.hid p6; clear p1 p2 p3 p4 p5 p6)
      go_ret
      exact ⟨a2, c2, vs', ls', rfl, P1.out, P2.out, P3.out.rws, P4.out, P5.out, HB.out.trans (P6.out.below HB.out.size (fun k hk => (HO.out.lt k hk).1))⟩
end Go.Proofs.YtpkkhbmlclicfaaDoor.val
