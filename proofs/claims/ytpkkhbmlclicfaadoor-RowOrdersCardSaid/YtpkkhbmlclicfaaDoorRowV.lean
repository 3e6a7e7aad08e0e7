/- The document's key and order of rows, walked. -/
import Derived.Test.YtpkkhbmlclicfaaDoorRowT
import Derived.Test.YtpkkhbmlclicfaaDoorValueR
import Derived.Test.YtpkkhbmlclicfaaDoorValueB
import Derived.Deep.RegionWith
namespace Go.Proofs.YtpkkhbmlclicfaaDoor.val
set_option linter.unusedVariables false
open Go.RowKit

theorem cat_nob (s : ByteArray) : s ++ nob = s := by apply bytes_data; simp [nob]
set_option maxRecDepth 100000 in
set_option maxHeartbeats 4000000 in
theorem refkey_any (v : Value) (l : List V) (hg : ∀ x ∈ l, Good x) (hm : l.length ≤ 1000000) (w : World) (hv : IsRow w v l) :
    Calls Tryd.prog 35 #[v] w fun e w' => e = .returned (.string ⟨(keyB l).toArray⟩) ∧ Below w.heap.size w w' := by
  obtain ⟨i0, hi, hz0, hz1, hz2⟩ := info_parts infoStr
  have HV := Lib.hid hv
  have HG := Lib.hid hg
  obtain ⟨a, cap, rfl, -⟩ := hv
  have hn0 : (0 : Int) ≤ (l.length : Int) := by omega
  have hn1 : (l.length : Int) ≤ 1000000 := by omega
  clear hg
  go_enter Tryd.func35, Tryd.ntmps35
  go_wp2
  go_loopw [3, 4] (fun sv i wr => ∃ k : Nat, i = .int .i64 (k : Int) ∧ k ≤ l.length ∧ Hid (wr.ownsRow w.heap.size 9 1 sv k (((l.take k).map encS).map Value.string)) ∧ Hid (Below w.heap.size w wr)) (fun _ i _ => l.length - (intOf i).toNat)
  case atStart => exact ⟨0, rfl, by omega, Lib.hid (World.ownsRow_nil _ _ _ _), Lib.hid (Below.refl _ _)⟩
  case round =>
    obtain ⟨k, rfl, hk, HO, HB⟩ := hrel
    have hd0 : (0 : Int) ≤ (k : Int) := by omega
    by_cases h1 : k < l.length
    · have d1 : (k : Int) < (l.length : Int) := by omega
      obtain ⟨b, off, cap', ea, hcell⟩ := (HV.out.later HB.out).pos (by omega)
      simp only [Value.slice.injEq] at ea
      obtain ⟨rfl, -, rfl⟩ := ea
      obtain ⟨c0, c1, c2⟩ := vCells_at l k _ (List.getElem?_eq_getElem h1)
      have g0 := (hcell (k * 3) (by omega)).trans c0
      have g1 := (hcell (k * 3 + 1) (by omega)).trans c1
      have g2 := (hcell (k * 3 + 2) (by omega)).trans c2
      rw [← Nat.add_assoc] at g1 g2
      have hgk := HG.out _ (List.getElem_mem h1)
      have HT := Lib.hid (take_map_snoc encS l k h1)
      generalize l[k] = x at *
      obtain ⟨xk, xn, xs⟩ := x
      dsimp only at g0 g1 g2
      have lb := World.block_lt_of_cell? wr _ g0
      dsimp only at lb
      clear hcell c0 c1 c2
      have HE := Lib.hid (enc_len hgk)
      have hcv0 := run_convert1
      have hcv1 := cvr1
      unfold Good at hgk
      dsimp only at hgk
      rcases hgk with ⟨rfl, rfl, rfl⟩ | ⟨rfl, h2, rfl⟩ | ⟨rfl, rfl, h2⟩ | ⟨rfl, rfl, h2⟩
      · go_upto_region 10 with fail
        obtain ⟨Y, hY⟩ : ∃ Y, wr.alloc (.cells #[.int .u8 0] 5) = Y := ⟨_, rfl⟩
        have HBX : Hid (Below wr.heap.size wr Y) := Lib.hid (by rw [← hY]; exact below_alloc1 _ _)
        rw [hY]
        clear hY
        have g3 : Y.cell? ⟨b, off + k * 3 + 2, none⟩ = some (.string _) := cell_later HBX.out g2
        have E : strOfNums [0] = encS ⟨0, 0, ByteArray.empty⟩ := rfl
        have HE2 := Lib.hid E
        have hown1 := owns_below HO.out HBX.out
        clear g0 g1 g2 E hcv0 hcv1
        go_wp2_with (at_builtin; refine wpList_append_own _ rfl _ _ 70 rfl w.heap.size 9 i0 (.string ⟨#[]⟩) 1 16 Tryd.underlying70 hi hz0 hz1 hz2 rfl (by decide) _ _ _ rfl (hown1.alloc _) ⟨Y.heap.size, 0, none⟩ 1 1 [.string _] rfl rfl (cell_one_new _ _ _) (by intro u hu; simp at hu; subst hu; rfl) (by unfold maxLen; omega) (by omega) (by have := HBX.out.size; have := HB.out.size; simp only [World.size_alloc] at *; omega) ?_; intro v' w2 hown' hgrow _)
        have hB2 : Below w.heap.size w w2 := ((HB.out.trans (HBX.out.mono HB.out.size)).alloc (by have := HBX.out.size; have := HB.out.size; omega) _).grown hgrow (by have := HBX.out.size; have := HB.out.size; simp only [World.size_alloc] at *; omega) (fun k hk => (hown1.lt k hk).1)
        have HO2 := Lib.hid hown'
        have HB2 := Lib.hid hB2
        clear hown1 hown' hgrow hB2
        go_wp2
        go_roundw
        case rel => exact ⟨k + 1, by go_num, by omega, Lib.hid (by rw [HT.out, List.map_append]; have h := HO2.out; rw [HE2.out] at h; simpa using h), HB2⟩
        case measure => simp [intOf]; omega
      · rcases h2 with rfl | rfl
        · go_upto_region 10 with fail
          obtain ⟨Y, hY⟩ : ∃ Y, (wr.alloc (.cells #[.int .u8 1] 5)).alloc (.cells #[.int .u8 0] 5) = Y := ⟨_, rfl⟩
          have HBX : Hid (Below wr.heap.size wr Y) := Lib.hid (by rw [← hY]; exact below_alloc2 _ _ _)
          rw [hY]
          clear hY
          have g3 : Y.cell? ⟨b, off + k * 3 + 2, none⟩ = some (.string _) := cell_later HBX.out g2
          have E : strOfNums [1] ++ strOfNums [0] = encS ⟨1, 0, ByteArray.empty⟩ := rfl
          have HE2 := Lib.hid E
          have hown1 := owns_below HO.out HBX.out
          clear g0 g1 g2 E hcv0 hcv1
          go_wp2_with (at_builtin; refine wpList_append_own _ rfl _ _ 70 rfl w.heap.size 9 i0 (.string ⟨#[]⟩) 1 16 Tryd.underlying70 hi hz0 hz1 hz2 rfl (by decide) _ _ _ rfl (hown1.alloc _) ⟨Y.heap.size, 0, none⟩ 1 1 [.string _] rfl rfl (cell_one_new _ _ _) (by intro u hu; simp at hu; subst hu; rfl) (by unfold maxLen; omega) (by omega) (by have := HBX.out.size; have := HB.out.size; simp only [World.size_alloc] at *; omega) ?_; intro v' w2 hown' hgrow _)
          have hB2 : Below w.heap.size w w2 := ((HB.out.trans (HBX.out.mono HB.out.size)).alloc (by have := HBX.out.size; have := HB.out.size; omega) _).grown hgrow (by have := HBX.out.size; have := HB.out.size; simp only [World.size_alloc] at *; omega) (fun k hk => (hown1.lt k hk).1)
          have HO2 := Lib.hid hown'
          have HB2 := Lib.hid hB2
          clear hown1 hown' hgrow hB2
          go_wp2
          go_roundw
          case rel => exact ⟨k + 1, by go_num, by omega, Lib.hid (by rw [HT.out, List.map_append]; have h := HO2.out; rw [HE2.out] at h; simpa using h), HB2⟩
          case measure => simp [intOf]; omega
        · go_upto_region 10 with fail
          obtain ⟨Y, hY⟩ : ∃ Y, (wr.alloc (.cells #[.int .u8 1] 5)).alloc (.cells #[.int .u8 1] 5) = Y := ⟨_, rfl⟩
          have HBX : Hid (Below wr.heap.size wr Y) := Lib.hid (by rw [← hY]; exact below_alloc2 _ _ _)
          rw [hY]
          clear hY
          have g3 : Y.cell? ⟨b, off + k * 3 + 2, none⟩ = some (.string _) := cell_later HBX.out g2
          have E : strOfNums [1] ++ strOfNums [1] = encS ⟨1, 1, ByteArray.empty⟩ := rfl
          have HE2 := Lib.hid E
          have hown1 := owns_below HO.out HBX.out
          clear g0 g1 g2 E hcv0 hcv1
          go_wp2_with (at_builtin; refine wpList_append_own _ rfl _ _ 70 rfl w.heap.size 9 i0 (.string ⟨#[]⟩) 1 16 Tryd.underlying70 hi hz0 hz1 hz2 rfl (by decide) _ _ _ rfl (hown1.alloc _) ⟨Y.heap.size, 0, none⟩ 1 1 [.string _] rfl rfl (cell_one_new _ _ _) (by intro u hu; simp at hu; subst hu; rfl) (by unfold maxLen; omega) (by omega) (by have := HBX.out.size; have := HB.out.size; simp only [World.size_alloc] at *; omega) ?_; intro v' w2 hown' hgrow _)
          have hB2 : Below w.heap.size w w2 := ((HB.out.trans (HBX.out.mono HB.out.size)).alloc (by have := HBX.out.size; have := HB.out.size; omega) _).grown hgrow (by have := HBX.out.size; have := HB.out.size; simp only [World.size_alloc] at *; omega) (fun k hk => (hown1.lt k hk).1)
          have HO2 := Lib.hid hown'
          have HB2 := Lib.hid hB2
          clear hown1 hown' hgrow hB2
          go_wp2
          go_roundw
          case rel => exact ⟨k + 1, by go_num, by omega, Lib.hid (by rw [HT.out, List.map_append]; have h := HO2.out; rw [HE2.out] at h; simpa using h), HB2⟩
          case measure => simp [intOf]; omega
      · have HR2 := Lib.hid (refInt_any xn h2)
        go_upto_region 10 with (first | (go_at_call 59; (with_reducible refine (HR2.out _).mono ?_); rintro e w1 ⟨rfl, hb1⟩; have HB1 := Lib.hid hb1; clear hb1))
        obtain ⟨Y, hY⟩ : ∃ Y, w1 = Y := ⟨_, rfl⟩
        have HBX : Hid (Below wr.heap.size wr Y) := Lib.hid (by rw [← hY]; exact after (below_alloc1 _ _) HB1.out)
        rw [hY]
        clear hY
        have g3 : Y.cell? ⟨b, off + k * 3 + 2, none⟩ = some (.string _) := cell_later HBX.out g2
        have E : strOfNums [2] ++ ⟨(intB xn).toArray⟩ = encS ⟨2, xn, ByteArray.empty⟩ := str_cat _ _
        have HE2 := Lib.hid E
        have hown1 := owns_below HO.out HBX.out
        clear g0 g1 g2 E hcv0 hcv1
        go_wp2_with (at_builtin; refine wpList_append_own _ rfl _ _ 70 rfl w.heap.size 9 i0 (.string ⟨#[]⟩) 1 16 Tryd.underlying70 hi hz0 hz1 hz2 rfl (by decide) _ _ _ rfl (hown1.alloc _) ⟨Y.heap.size, 0, none⟩ 1 1 [.string _] rfl rfl (cell_one_new _ _ _) (by intro u hu; simp at hu; subst hu; rfl) (by unfold maxLen; omega) (by omega) (by have := HBX.out.size; have := HB.out.size; simp only [World.size_alloc] at *; omega) ?_; intro v' w2 hown' hgrow _)
        have hB2 : Below w.heap.size w w2 := ((HB.out.trans (HBX.out.mono HB.out.size)).alloc (by have := HBX.out.size; have := HB.out.size; omega) _).grown hgrow (by have := HBX.out.size; have := HB.out.size; simp only [World.size_alloc] at *; omega) (fun k hk => (hown1.lt k hk).1)
        have HO2 := Lib.hid hown'
        have HB2 := Lib.hid hB2
        clear hown1 hown' hgrow hB2
        go_wp2
        go_roundw
        case rel => exact ⟨k + 1, by go_num, by omega, Lib.hid (by rw [HT.out, List.map_append]; have h := HO2.out; rw [HE2.out] at h; simpa using h), HB2⟩
        case measure => simp [intOf]; omega
      · have hl3 : ¬ 9223372036854775807 < (strOfNums [3]).size + xs.size := by
          have e : (strOfNums [3]).size = 1 := rfl
          rw [e]; omega
        go_upto_region 10 with fail
        obtain ⟨Y, hY⟩ : ∃ Y, wr.alloc (.cells #[.int .u8 3] 5) = Y := ⟨_, rfl⟩
        have HBX : Hid (Below wr.heap.size wr Y) := Lib.hid (by rw [← hY]; exact below_alloc1 _ _)
        rw [hY]
        clear hY
        have g3 : Y.cell? ⟨b, off + k * 3 + 2, none⟩ = some (.string _) := cell_later HBX.out g2
        have E : strOfNums [3] ++ xs = encS ⟨3, 0, xs⟩ := str_cat _ _
        have HE2 := Lib.hid E
        have hown1 := owns_below HO.out HBX.out
        clear g0 g1 g2 E hcv0 hcv1
        go_wp2_with (at_builtin; refine wpList_append_own _ rfl _ _ 70 rfl w.heap.size 9 i0 (.string ⟨#[]⟩) 1 16 Tryd.underlying70 hi hz0 hz1 hz2 rfl (by decide) _ _ _ rfl (hown1.alloc _) ⟨Y.heap.size, 0, none⟩ 1 1 [.string _] rfl rfl (cell_one_new _ _ _) (by intro u hu; simp at hu; subst hu; rfl) (by unfold maxLen; omega) (by omega) (by have := HBX.out.size; have := HB.out.size; simp only [World.size_alloc] at *; omega) ?_; intro v' w2 hown' hgrow _)
        have hB2 : Below w.heap.size w w2 := ((HB.out.trans (HBX.out.mono HB.out.size)).alloc (by have := HBX.out.size; have := HB.out.size; omega) _).grown hgrow (by have := HBX.out.size; have := HB.out.size; simp only [World.size_alloc] at *; omega) (fun k hk => (hown1.lt k hk).1)
        have HO2 := Lib.hid hown'
        have HB2 := Lib.hid hB2
        clear hown1 hown' hgrow hB2
        go_wp2
        go_roundw
        case rel => exact ⟨k + 1, by go_num, by omega, Lib.hid (by rw [HT.out, List.map_append]; have h := HO2.out; rw [HE2.out] at h; simpa using h), HB2⟩
        case measure => simp [intOf]; omega
    · have d1 : ¬ (k : Int) < (l.length : Int) := by omega
      have hk2 : k = l.length := by omega
      subst hk2
      have HR : Hid (Row wr _ 1 (l.map encS).length ((l.map encS).map Value.string)) := Lib.hid (by have h := Row.of_owns HO.out; rw [List.take_length] at h; rwa [List.length_map])
      have HL := Lib.hid (keyB_len l HG.out)
      go_wp2_with (go_at_call 60; (with_reducible refine (refPack_any _ (l.map encS) _ (by rw [List.length_map]; omega) HR.out (by have := HL.out; unfold keyB at this; omega)).mono ?_); rintro e w1 ⟨rfl, hb1⟩)
      go_ret
      exact ⟨rfl, HB.out.trans (hb1.mono HB.out.size)⟩

/-- does a row stand ahead of another one? -/
def beforeL : List V → List V → Bool
  | [], [] => false
  | [], _ :: _ => true
  | _ :: _, [] => false
  | a :: l, b :: m => if veq a b = true then beforeL l m else less a b
theorem beforeL_end {l m : List V} (k : Nat) (h : l.length ≤ k ∨ m.length ≤ k) (h1 : k ≤ l.length) (h2 : k ≤ m.length) : beforeL (l.drop k) (m.drop k) = decide (l.length < m.length) := by
  rcases h with h | h
  · have hk : k = l.length := by omega
    subst hk
    rw [List.drop_length]
    by_cases h3 : l.length < m.length
    · rw [List.drop_eq_getElem_cons h3]; simp [beforeL, h3]
    · rw [List.drop_eq_nil_iff.2 (by omega)]; simp [beforeL, h3]
  · have hk : k = m.length := by omega
    subst hk
    rw [List.drop_length]
    have h3 : ¬ l.length < m.length := by omega
    cases hd : l.drop m.length <;> simp [beforeL, h3]
theorem beforeL_step {l m : List V} (k : Nat) (h : k < l.length) (hk : k < m.length) : beforeL (l.drop k) (m.drop k) = if veq l[k] m[k] = true then beforeL (l.drop (k + 1)) (m.drop (k + 1)) else less l[k] m[k] := by
  rw [List.drop_eq_getElem_cons h, List.drop_eq_getElem_cons hk]; rfl
attribute [local go_sem high] run_eqR run_neR
set_option maxRecDepth 100000 in
set_option maxHeartbeats 4000000 in
theorem refbefore_any (va vb : Value) (l m : List V) (hgl : ∀ x ∈ l, Good x) (hgm : ∀ x ∈ m, Good x) (hl : l.length ≤ 1000000) (hm : m.length ≤ 1000000) (w : World) (ha : IsRow w va l) (hb : IsRow w vb m) :
    Calls Tryd.prog 30 #[va, vb] w fun e w' => e = .returned (.bool (beforeL l m)) ∧ Below w.heap.size w w' := by
  have HA := Lib.hid ha; have HB := Lib.hid hb
  have HGL := Lib.hid hgl; have HGM := Lib.hid hgm
  obtain ⟨aa, ca, rfl, -⟩ := ha
  obtain ⟨ab, cb, rfl, -⟩ := hb
  obtain ⟨R, hR⟩ : ∃ R, beforeL l m = R := ⟨_, rfl⟩
  have HR := Lib.hid hR
  rw [hR]
  clear hR hgl hgm
  have hn0 : (0 : Int) ≤ (l.length : Int) := by omega
  have hn1 : (l.length : Int) ≤ 1000000 := by omega
  have ho0 : (0 : Int) ≤ (m.length : Int) := by omega
  have ho1 : (m.length : Int) ≤ 1000000 := by omega
  go_enter Tryd.func30, Tryd.ntmps30
  go_wp2
  go_loopw [5] (fun i wr => ∃ k : Nat, i = .int .i64 (k : Int) ∧ k ≤ l.length ∧ k ≤ m.length ∧ Hid (beforeL (l.drop k) (m.drop k) = R) ∧ Hid (Below w.heap.size w wr)) (fun i _ => l.length - (intOf i).toNat)
  case atStart => exact ⟨0, rfl, by omega, by omega, HR, Lib.hid (Below.refl _ _)⟩
  case round =>
    obtain ⟨k, rfl, hk, hk2, HC, HW⟩ := hrel
    have hd0 : (0 : Int) ≤ (k : Int) := by omega
    by_cases h1 : k < l.length
    · have d1 : (k : Int) < (l.length : Int) := by omega
      by_cases h2 : k < m.length
      · have d2 : (k : Int) < (m.length : Int) := by omega
        obtain ⟨b, off, cap', ea, hcell⟩ := (HA.out.later HW.out).pos (by omega)
        simp only [Value.slice.injEq] at ea
        obtain ⟨rfl, -, rfl⟩ := ea
        obtain ⟨c0, c1, c2⟩ := vCells_at l k _ (List.getElem?_eq_getElem h1)
        have g0 := (hcell (k * 3) (by omega)).trans c0
        have g1 := (hcell (k * 3 + 1) (by omega)).trans c1
        have g2 := (hcell (k * 3 + 2) (by omega)).trans c2
        rw [← Nat.add_assoc] at g1 g2
        clear hcell c0 c1 c2
        obtain ⟨b', off', cap', ea, hcell⟩ := (HB.out.later HW.out).pos (by omega)
        simp only [Value.slice.injEq] at ea
        obtain ⟨rfl, -, rfl⟩ := ea
        obtain ⟨c0, c1, c2⟩ := vCells_at m k _ (List.getElem?_eq_getElem h2)
        have g3 := (hcell (k * 3) (by omega)).trans c0
        have g4 := (hcell (k * 3 + 1) (by omega)).trans c1
        have g5 := (hcell (k * 3 + 2) (by omega)).trans c2
        rw [← Nat.add_assoc] at g4 g5
        clear hcell c0 c1 c2
        have HS := Lib.hid (beforeL_step k h1 h2)
        have hga := HGL.out _ (List.getElem_mem h1)
        have hgb := HGM.out _ (List.getElem_mem h2)
        generalize l[k] = x at *
        generalize m[k] = y at *
        obtain ⟨xk, xn, xs⟩ := x
        obtain ⟨yk, yn, ys⟩ := y
        dsimp only at g0 g1 g2 g3 g4 g5
        have HX := Lib.hid (fun W => before_any xk xn yk yn xs ys hga hgb W)
        obtain ⟨c, hc⟩ : ∃ c, veq6 xk xn xs yk yn ys = c := ⟨_, rfl⟩
        have HCC := Lib.hid hc
        have hcn : (!veq6 xk xn xs yk yn ys) = !c := by rw [hc]
        clear hga hgb
        have he : veq6 xk xn xs yk yn ys = c := hc
        clear hc hcn
        cases c
        · have hs : beforeL (l.drop k) (m.drop k) = less ⟨xk, xn, xs⟩ ⟨yk, yn, ys⟩ := by rw [HS.out, if_neg]; show ¬ veq6 xk xn xs yk yn ys = true; rw [HCC.out]; simp
          have HSS := Lib.hid hs
          clear hs
          go_wp2
          go_quiet (fail)
          go_wp2
          have HK := Lib.hid (fun W (hb : Below w.heap.size w W) => hb)
          go_region_with (go_at_call 14; (refine (HX.out _).mono ?_); rintro e w2 ⟨rfl, hb2⟩; have HB2 := Lib.hid hb2; clear hb2)
          all_goals
            go_wp2
            go_ret
            refine ⟨ret_bool (by rw [← HC.out, HSS.out]), ?_⟩
            exact (below_drewN HW.out _).trans (HB2.out.mono HW.out.size)
        · have hs : beforeL (l.drop k) (m.drop k) = beforeL (l.drop (k + 1)) (m.drop (k + 1)) := by rw [HS.out, if_pos]; exact HCC.out
          have HSS := Lib.hid hs
          clear hs
          go_wp2
          go_quiet (fail)
          go_wp2
          go_roundw
          case rel => exact ⟨k + 1, by go_num, by omega, by omega, Lib.hid (by rw [← HSS.out]; exact HC.out), Lib.hid (below_drewN HW.out _)⟩
          case measure => simp [intOf]; omega
      · have d2 : ¬ (k : Int) < (m.length : Int) := by omega
        have HS := Lib.hid (beforeL_end (l := l) (m := m) k (.inr (by omega)) hk hk2)
        have e2 : ¬ (l.length : Int) < (m.length : Int) := by omega
        have e3 : ¬ l.length < m.length := by omega
        go_wp2_with fail
        go_ret
        exact ⟨ret_bool (by rw [← HC.out, HS.out]; simp [e3]), HW.out⟩
    · have d1 : ¬ (k : Int) < (l.length : Int) := by omega
      have HS := Lib.hid (beforeL_end (l := l) (m := m) k (.inl (by omega)) hk hk2)
      go_wp2_with fail
      go_ret
      exact ⟨ret_bool (by rw [← HC.out, HS.out]), HW.out⟩
/-- are both rows the same? -/
def sameB (l m : List V) : Bool := !beforeL l m && !beforeL m l
theorem refsame_any (va vb : Value) (l m : List V) (hgl : ∀ x ∈ l, Good x) (hgm : ∀ x ∈ m, Good x) (hl : l.length ≤ 1000000) (hm : m.length ≤ 1000000) (w : World) (ha : IsRow w va l) (hb : IsRow w vb m) :
    Calls Tryd.prog 37 #[va, vb] w fun e w' => e = .returned (.bool (sameB l m)) ∧ Below w.heap.size w w' := by
  unfold sameB
  obtain ⟨p, hp⟩ : ∃ p, beforeL l m = p := ⟨_, rfl⟩
  obtain ⟨q, hq⟩ : ∃ q, beforeL m l = q := ⟨_, rfl⟩
  have H1 := Lib.hid (fun W (hbw : Below w.heap.size w W) => by have h := refbefore_any va vb l m hgl hgm hl hm W (ha.later hbw) (hb.later hbw); rwa [hp] at h)
  have H2 := Lib.hid (fun W (hbw : Below w.heap.size w W) => by have h := refbefore_any vb va m l hgm hgl hm hl W (hb.later hbw) (ha.later hbw); rwa [hq] at h)
  rw [hp, hq]
  clear hp hq ha hb hgl hgm
  cases p
  · go_enter Tryd.func37, Tryd.ntmps37
    go_wp2_with fail
    (with_reducible refine (H1.out _ (Below.refl _ _)).mono ?_); rintro e w1 ⟨rfl, hb1⟩
    have HB1 := Lib.hid hb1
    clear hb1
    go_wp2_with fail
    (with_reducible refine (H2.out _ HB1.out).mono ?_); rintro e w2 ⟨rfl, hb2⟩
    have HB2 := Lib.hid hb2
    clear hb2
    cases q
    all_goals
      go_wp2_with fail
      go_ret
      exact ⟨rfl, HB1.out.trans (HB2.out.mono HB1.out.size)⟩
  · go_enter Tryd.func37, Tryd.ntmps37
    go_wp2_with fail
    (with_reducible refine (H1.out _ (Below.refl _ _)).mono ?_); rintro e w1 ⟨rfl, hb1⟩
    have HB1 := Lib.hid hb1
    clear hb1
    go_wp2_with fail
    go_ret
    exact ⟨rfl, HB1.out⟩
/-! ### The order of rows, as it is. -/
theorem beforeL_self (l : List V) : beforeL l l = false := by
  induction l with
  | nil => rfl
  | cons a l ih => simp [beforeL, veq_self, ih]
theorem sameB_iff : ∀ (l m : List V), (∀ x ∈ l, Good x) → (∀ x ∈ m, Good x) → (sameB l m = true ↔ l = m)
  | [], [], _, _ => by simp [sameB, beforeL]
  | [], b :: m, _, _ => by simp [sameB, beforeL]
  | a :: l, [], _, _ => by simp [sameB, beforeL]
  | a :: l, b :: m, h1, h2 => by
    have ih := sameB_iff l m (fun x hx => h1 x (by simp [hx])) (fun x hx => h2 x (by simp [hx]))
    unfold sameB at ih ⊢
    by_cases e : a = b
    · subst e
      simp only [beforeL, veq_self, if_true, ih, List.cons.injEq, true_and]
    · have e1 : veq a b = false := (veq_false a b).2 e
      have e2 : veq b a = false := (veq_false b a).2 (fun h => e h.symm)
      simp only [beforeL, e1, e2, Bool.false_eq_true, if_false, List.cons.injEq, e, false_and, iff_false, Bool.not_eq_true, Bool.and_eq_false_iff, Bool.not_eq_false']
      cases h3 : less a b with
      | true => exact .inl rfl
      | false =>
        refine .inr ?_
        cases h4 : less b a with
        | true => rfl
        | false => exact absurd (less_total a b (h1 a (by simp)) (h2 b (by simp)) h3 h4) e
theorem cmpV_self (a : V) : cmpV a a = 0 := by
  unfold cmpV; simp [or3, cmpI, cmpS, bl_irrefl]
theorem cmpL_self (l : List V) : cmpL l l = 0 := by
  induction l with
  | nil => rfl
  | cons a l ih => simp [cmpL, cmpV_self, ih]
end Go.Proofs.YtpkkhbmlclicfaaDoor.val
