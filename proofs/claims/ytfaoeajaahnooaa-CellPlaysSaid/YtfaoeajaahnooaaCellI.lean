/- The law's 'speaks': a cell that is watched; walked. -/
import Derived.Test.YtfaoeajaahnooaaCellH
namespace Go.Proofs.Ytfaoeajaahnooaa.cel
set_option linter.unusedVariables false
open Go.RowKit Go.WideShapes Go.MapKept

def kA : ByteArray := ⟨#[97]⟩
def kX : ByteArray := ⟨#[120]⟩
theorem kX_ne : ByteArray.empty ≠ kX := fun h => by have := congrArg ByteArray.size h; exact absurd this (by decide)
theorem kX_list : kX.toList = [120] := by rw [Lib.toList_data]; rfl
noncomputable def S1 : CS := CS.no.watched kA (insI (CS.no.wh kA) 3) (CS.no.n + 1)
theorem S1_wh : S1.wh kA = [3] := by unfold S1 CS.watched; simp only [upd_same]; rfl
theorem S1_tx (s : ByteArray) : S1.tx s = ByteArray.empty := rfl
theorem S1_n : S1.n = 1 := rfl
noncomputable def S2 : CS := { S1 with tx := upd S1.tx kA kX }
theorem S2_tx : S2.tx kA = kX := upd_same _ _ _
theorem S2_other {s : ByteArray} (h : s ≠ kA) : S2.tx s = ByteArray.empty := upd_other _ _ h
set_option maxRecDepth 100000 in
set_option maxHeartbeats 4000000 in
theorem speaks_any (w : World) : Calls Try.prog 5 #[] w fun e w' => e = .returned (.bool true) ∧ Below w.heap.size w w' := by
  go_enter Try.func5, Try.ntmps5
  go_upto_region 2 with (go_at_call 6; refine (new_any w).mono ?_; rintro e w1 ⟨bs, bt, bw, rfl, h1, b1⟩; have HC1 := Lib.hid h1; have HB1 := Lib.hid b1; clear h1 b1)
  have HA2 := Lib.hid (watch_any HC1.out (by omega) kA (by decide) 3 (by omega) (by decide) (by decide) S1 (if_neg (by simp [CS.no])).symm)
  rw [show decide ((3 : Int) ∈ CS.no.wh kA) = false from rfl, Bool.not_false] at HA2
  go_upto_region 3 with (go_at_call 8; refine HA2.out.mono ?_; rintro e w2 ⟨rfl, Dw2, bk2, h2, o2⟩; have HC2 := Lib.hid h2; have HB2 := Lib.hid o2; clear h2 o2)
  have HA3 := Lib.hid (watch_any HC2.out (by omega) kA (by decide) 3 (by omega) (by rw [S1_n]; decide) (by rw [S1_n]; decide) S1 (if_pos (by rw [S1_wh]; simp)).symm)
  rw [show decide ((3 : Int) ∈ S1.wh kA) = true by rw [S1_wh]; rfl, Bool.not_true] at HA3
  go_upto_region 4 with (go_at_call 8; refine HA3.out.mono ?_; rintro e w3 ⟨rfl, Dw3, bk3, h3, o3⟩; have HC3 := Lib.hid h3; have HB3 := Lib.hid o3; clear h3 o3)
  have HA4 := Lib.hid (set_any HC3.out (by omega) kA kX (by decide) [3] (by rw [if_neg (by rw [S1_tx]; exact kX_ne), S1_wh]))
  go_upto_region 5 with (go_at_call 11; refine HA4.out.mono ?_; rintro e w4 ⟨v4, Dt4, rfl, h4, o4, r4⟩; have HC4 := Lib.hid (show Cel _ _ _ S2 _ _ _ _ _ _ from h4); have HB4 := Lib.hid o4; have HR4 := Lib.hid r4; clear h4 o4 r4)
  have HA5 := Lib.hid (set_any HC4.out (by omega) kA kX (by decide) [] (by rw [if_pos S2_tx]))
  go_upto_region 6 with (go_at_call 11; refine HA5.out.mono ?_; rintro e w5 ⟨v5, Dt5, rfl, h5, o5, r5⟩; have HC5 := Lib.hid h5; have HB5 := Lib.hid o5; have HR5 := Lib.hid r5; clear h5 o5 r5)
  have z1 := HB1.out.size
  have z2 := HB2.out.size
  have z3 := HB3.out.size
  have z4 := HB4.out.size
  have z5 := HB5.out.size
  have hown : ∀ k, ownNew (ownNew (fun k => w.heap.size ≤ k ∧ k < w1.heap.size) w1 w2) w2 w3 k → w.heap.size ≤ k ∧ k < w3.heap.size := fun k hk => by
    rcases hk with (⟨h1, h2⟩ | ⟨h1, h2⟩) | ⟨h1, h2⟩ <;> omega
  have hb2 : Below w.heap.size w1 w2 := HB2.out.below (by omega) (fun k hk => hk.1)
  have hb3 : Below w.heap.size w2 w3 := HB3.out.below (by omega) (fun k hk => by rcases hk with ⟨h1, h2⟩ | ⟨h1, h2⟩ <;> omega)
  have hb4 : Below w.heap.size w3 w4 := HB4.out.below (by omega) (fun k hk => (hown k hk).1)
  have hb5 : Below w.heap.size w4 w5 := HB5.out.below (by omega) (fun k hk => (hown k hk).1)
  have HBB := Lib.hid ((((HB1.out.trans hb2).trans hb3).trans hb4).trans hb5)
  have hr4 := owns_only HR4.out HB5.out (fun g hg ho => by have := (HR4.out.lt g hg).1; have := (hown g ho).2; omega)
  have HG := Lib.hid (get_any HC5.out kA (by decide))
  have HL := Lib.hid (len_any HC5.out)
  have HN := Lib.hid (watches_any HC5.out)
  have hsz := HC5.out.sizeD [kA] (by simp) (fun s hs => by rw [List.mem_singleton.1 hs]; decide) (fun s _ => by
    by_cases e : s = kA
    · subst e; simp only [upd_same, List.mem_singleton, true_iff]; exact fun h => kX_ne h.symm
    · simp only [upd_other _ _ e, S2_other e, List.mem_singleton, e, false_iff, Classical.not_not])
  rw [hsz] at HL
  simp only [upd_same] at HG
  rw [show S2.n = 1 from rfl] at HN
  obtain ⟨a4, c4, rfl⟩ := owns_shape hr4
  obtain ⟨a5, c5, rfl⟩ := owns_shape HR5.out
  obtain ⟨g, rfl, -, hg, hc, -⟩ := owns_cellAt hr4 (by simp)
  have c0 := hc 0 (by simp)
  simp only [List.map_cons, List.getElem?_cons_zero] at c0
  clear hr4 hc hb2 hb3 hb4 hb5 hsz z1 z2 z3 z4 z5 hown HB1 HB2 HB3 HB4 HB5 HA2 HA3 HA4 HA5 HC1 HC2 HC3 HC4 HC5 HR4 HR5
  simp only [List.length_cons, List.length_nil, Nat.zero_add] at *
  have hkx := kX_list
  go_wp2_with (first
    | (go_at_call 13; refine HG.out.mono ?_; rintro e w' ⟨rfl, rfl⟩)
    | (go_at_call 17; refine HL.out.mono ?_; rintro e w' ⟨rfl, rfl⟩)
    | (go_at_call 16; refine HN.out.mono ?_; rintro e w' ⟨rfl, rfl⟩))
  go_ret
  exact ⟨rfl, HBB.out⟩
end Go.Proofs.Ytfaoeajaahnooaa.cel
