/- The law BagReads, walked. -/
import Derived.Test.YtpkkhbmlclicfaaBagY
import Derived.Test.YtpkkhbmlclicfaaBagLa
import Derived.Test.YtpkkhbmlclicfaaMA
import Derived.Laws.OwnMore
import Derived.RegionTactic
import Derived.BigRegion
import Derived.Deep.QuietTactic
import Derived.BigQuiet
import Derived.Shelf.SlSortCmp.QuietGrown
namespace Go.Proofs.Ytpkkhbmlclicfaa.val
set_option linter.unusedVariables false
open Go.RowKit Go.Sort
attribute [local go_sem high] run_min_keep
attribute [local go_sem] ag.upon_value ag.upon_skip ag.upon_enter
attribute [local go_sem] Oper.semAt_some
attribute [local go_sem ↓ high] apZ_eq
theorem row_take {w : World} {a : Option Addr} {n cap size : Nat} {xs : List Value} (h : Row w (.slice a n cap) size n xs) (m : Nat) (hm : m ≤ n) : Row w (.slice a m cap) size m (xs.take (m * size)) := by
  obtain ⟨a', cap', e, hl, h⟩ := h
  simp only [Value.slice.injEq] at e
  obtain ⟨rfl, -, rfl⟩ := e
  have hmk : m * size ≤ n * size := Nat.mul_le_mul_right _ hm
  refine ⟨a, cap, rfl, by rw [List.length_take]; omega, ?_⟩
  rcases h with h | ⟨b, off, rfl, hc⟩
  · exact .inl (by omega)
  · exact .inr ⟨b, off, rfl, fun j hj => by rw [hc j (by omega), List.getElem?_take_of_lt hj]⟩
/-- the texts, in whatever order, in a list of the call's own -/
def Sorts (w1 : World) (a : Option Addr) (m c : Nat) (ss : List ByteArray) (w : World) : Prop := (∃ tt : List ByteArray, tt.Perm ss ∧ w.ownsRow w1.heap.size 9 1 (.slice a m c) m (tt.map Value.string)) ∧ Below w1.heap.size w1 w
theorem Sorts.drewN {w1 : World} {a : Option Addr} {m c : Nat} {ss : List ByteArray} {w : World} (h : Sorts w1 a m c ss w) (n : Nat) : Sorts w1 a m c ss (w.drewN n) := by
  obtain ⟨⟨tt, h1, h2⟩, h3⟩ := h
  exact ⟨⟨tt, h1, owns_drewN h2 n⟩, below_drewN h3 n⟩
theorem Sorts.swap {w1 : World} {a : Option Addr} {m c : Nat} {ss : List ByteArray} {w : World} (h : Sorts w1 a m c ss w) (q : Nat) (hq : q + 1 < m) :
    ∃ g x y, a = some ⟨g, 0, none⟩ ∧ g < w.heap.size ∧ w.cell? ⟨g, q, none⟩ = some (.string x) ∧ w.cell? ⟨g, q + 1, none⟩ = some (.string y) ∧ w.frozen? ⟨g, q, none⟩ = false ∧ w.frozen? ⟨g, q + 1, none⟩ = false ∧
      ∀ n, Sorts w1 a m c ss (((w.drewN n).setCell ⟨g, q + 1, none⟩ (.string x)).setCell ⟨g, q, none⟩ (.string y)) ∧ Sorts w1 a m c ss (((w.drewN n).setCell ⟨g, q, none⟩ (.string y)).setCell ⟨g, q + 1, none⟩ (.string x)) := by
  obtain ⟨⟨tt, hper, hot⟩, hbt⟩ := h
  obtain ⟨g, rfl, hg1, hg2, hc, hfz⟩ := owns_cellAt hot (by omega)
  have htl : tt.length = m := by have := hot.1; simpa using this
  have l1 : q + 1 < tt.length := by omega
  have l0 : q < tt.length := by omega
  refine ⟨g, tt[q], tt[q + 1], rfl, hg2, (hc q (by omega)).trans (by rw [List.getElem?_map, List.getElem?_eq_getElem l0]; rfl), (hc (q + 1) (by omega)).trans (by rw [List.getElem?_map, List.getElem?_eq_getElem l1]; rfl), hfz _, hfz _, fun n => ?_⟩
  have ho := owns_drewN hot n
  have hb := below_drewN hbt n
  constructor
  · have h1 := (ho.stored (q + 1) (.string tt[q])).1.stored q (.string tt[q + 1])
    refine ⟨⟨(tt.set (q + 1) tt[q]).set q tt[q + 1], (List.set_set_perm l1 l0).trans hper, ?_⟩, (hb.setCell (by exact hg1) _).setCell (by exact hg1) _⟩
    rw [← List.map_set, ← List.map_set] at h1
    exact h1.1
  · have h1 := (ho.stored q (.string tt[q + 1])).1.stored (q + 1) (.string tt[q])
    refine ⟨⟨(tt.set q tt[q + 1]).set (q + 1) tt[q], (List.set_set_perm l0 l1).trans hper, ?_⟩, (hb.setCell (by exact hg1) _).setCell (by exact hg1) _⟩
    rw [← List.map_set, ← List.map_set] at h1
    exact h1.1
theorem errK_first (ss : List ByteArray) (k : Nat) (hks : k < ss.length) (hz : ∀ x ∈ ss.take k, errR x = 0) (hb : errR ss[k] ≠ 0) : errK ss ≠ 0 ∧ errK ss = errR ss[k] := by
  have this : ∀ j, j ≤ k → errK ss = errK (ss.drop j) := by
    intro j
    induction j with
    | zero => intro _; rw [List.drop_zero]
    | succ j ih =>
      intro hj
      rw [ih (by omega), errK_drop ss j (by omega) (hz _ (by
        rw [List.mem_iff_getElem?]
        exact ⟨j, by rw [List.getElem?_take_of_lt (by omega)]; exact List.getElem?_eq_getElem (by omega)⟩))]
  rw [this k (Nat.le_refl _), errK_at ss k hks hb]
  exact ⟨hb, rfl⟩
theorem split_more (ss : List ByteArray) (h : ∀ s ∈ ss, s.size < 4294967296) : splitS ((⟨(packB ss).toArray⟩ : ByteArray) ++ ⟨#[0]⟩) = (ss, false) := by
  have key : ∀ ss : List ByteArray, (∀ s ∈ ss, s.size < 4294967296) → splitS ⟨(packB ss ++ [0]).toArray⟩ = (ss, false) := by
    intro ss
    induction ss with
    | nil => intro _; decide +kernel
    | cons s ss ih =>
      intro h
      have hs : s.size < 4294967296 := h s (by simp)
      have hp : packB (s :: ss) ++ [0] = beD 4 s.size ++ (s.data.toList ++ (packB ss ++ [0])) := by simp [packB]
      have hl : (beD 4 s.size).length = 4 := beD_length _ _
      have hsl : s.data.toList.length = s.size := by simp
      have hN : cutN ⟨(packB (s :: ss) ++ [0]).toArray⟩ = s.size := by
        unfold cutN
        rw [data_mk, hp, List.take_append_of_le_length (by omega), List.take_of_length_le (by omega), beVal_beD, Nat.mod_eq_of_lt (by omega)]
      have hz : (⟨(packB (s :: ss) ++ [0]).toArray⟩ : ByteArray).size = 4 + s.size + (packB ss ++ [0]).length := by
        rw [size_mk, hp, List.length_append, List.length_append, hl, hsl]; omega
      rw [splitS_step _ (by rw [hz]; omega) (by rw [hz, hN]; omega), hN, extract_mk, extract_mk, hz]
      have e1 : ((packB (s :: ss) ++ [0]).drop 4).take (4 + s.size - 4) = s.data.toList := by
        rw [hp, List.drop_append_of_le_length (by omega), List.drop_of_length_le (by omega), List.nil_append, show 4 + s.size - 4 = s.data.toList.length by omega, List.take_left]
      have e2 : ((packB (s :: ss) ++ [0]).drop (4 + s.size)).take (4 + s.size + (packB ss ++ [0]).length - (4 + s.size)) = packB ss ++ [0] := by
        rw [hp, ← List.append_assoc, List.drop_left' (by rw [List.length_append, hl, hsl]), List.take_of_length_le (by omega)]
      rw [e1, e2, ih (fun x hx => h x (by simp [hx]))]
  have e : ((⟨(packB ss).toArray⟩ : ByteArray) ++ ⟨#[0]⟩) = ⟨(packB ss ++ [0]).toArray⟩ := by
    refine ByteArray.ext ?_
    rw [ByteArray.data_append]
    simp
  rw [e]
  exact key ss h
theorem packB_eight (ss : List ByteArray) : (packB (ss.take 8)).length ≤ (ss.map fun s => s.size + 1).sum + 24 := by
  have h1 : ∀ l : List ByteArray, (packB l).length = (l.map fun s => s.size + 1).sum + 3 * l.length := by
    intro l
    rw [packB_length]
    induction l with
    | nil => rfl
    | cons a l ih => simp only [List.map_cons, List.sum_cons, List.length_cons]; omega
  have h2 : ∀ (k : Nat) (l : List ByteArray), ((l.take k).map fun s => s.size + 1).sum ≤ (l.map fun s => s.size + 1).sum := by
    intro k l
    conv => rhs; rw [← List.take_append_drop k l]
    rw [List.map_append, List.sum_append]; omega
  have h3 := h1 (ss.take 8)
  have h4 := h2 8 ss
  have h5 : (ss.take 8).length ≤ 8 := by rw [List.length_take]; omega
  omega
set_option maxRecDepth 100000 in
set_option maxHeartbeats 4000000 in
theorem reads8_walk (a0 : Option Addr) (n0 cap0 : Nat) (ss0 : List ByteArray) (b : Bool) (hn : ss0.length = n0) (hm : n0 ≤ 1048576) (hroom0 : (packB (ss0.take 8)).length ≤ 3999999) (w : World)
    (hR : Row w (.slice a0 n0 cap0) 1 n0 (ss0.map Value.string)) (hcap : n0 ≤ cap0) :
    Calls Try.prog 4 #[.slice a0 n0 cap0, .bool b] w fun e w' => e = .returned (.bool true) ∧ Below w.heap.size w w' := by
  obtain ⟨i0, hi, hz0, hz1, hz2⟩ := info_parts infoStr
  obtain ⟨m, hmn⟩ : ∃ m : Nat, (min (n0 : Int) 8).toNat = m := ⟨_, rfl⟩
  have hm8 : m ≤ 8 := by omega
  have hmn0 : m ≤ n0 := by omega
  have hmin0 : (0 : Int) ≤ min (n0 : Int) 8 := by omega
  have hmin1 : min (n0 : Int) 8 ≤ (n0 : Int) := by omega
  have hmin2 : min (n0 : Int) 8 ≤ (cap0 : Int) := by omega
  have hnn0 : (0 : Int) ≤ (n0 : Int) := by omega
  have hnn1 : (n0 : Int) ≤ 1048576 := by omega
  have hrt := row_take hR m hmn0
  rw [Nat.mul_one, ← List.map_take] at hrt
  have hrt2 : ss0.take m = ss0.take 8 := by
    by_cases h8 : 8 ≤ n0
    · congr 1; omega
    · rw [List.take_of_length_le (by omega), List.take_of_length_le (by omega)]
  have HRT := Lib.hid hrt
  obtain ⟨ss, hss⟩ : ∃ ss, ss0.take m = ss := ⟨_, rfl⟩
  have HL : Hid (ss.length = m) := Lib.hid (by rw [← hss, List.length_take]; omega)
  have HP : Hid ((packB ss).length ≤ 3999999) := Lib.hid (by rw [← hss, hrt2]; exact hroom0)
  rw [hss] at HRT
  have hq0 : (0 : Int) ≤ (m : Int) := by omega
  have hq1 : (m : Int) ≤ 8 := by omega
  clear hrt hrt2 hss hR hroom0 hm hn hcap
  go_enter Try.func4, Try.ntmps4
  go_wp2_with fail
  (with_reducible refine (speaks8 _).mono ?_); rintro e w1 ⟨rfl, hb1⟩
  have HR1 := Lib.hid (HRT.out.later hb1)
  have HB1 := Lib.hid hb1
  clear hb1 HRT
  have hbe := below_alloc1 w1 (.cells #[] 9)
  have hown : (w1.alloc (.cells #[] 9)).ownsRow w1.heap.size 9 1 (.slice (some ⟨w1.heap.size, 0, none⟩) 0 0) 0 [] := owns_of_flds (Flds.new w1 9 []) rfl (Nat.le_refl _) (by simp [maxLen])
  have hrow := HR1.out.later hbe
  have hone : ∀ u ∈ ss.map Value.string, u.oneCell' = true := fun u hu => by obtain ⟨s, -, rfl⟩ := List.mem_map.1 hu; rfl
  have hsz : (w1.alloc (.cells #[] 9)).heap.size = w1.heap.size + 1 := World.size_alloc _ _
  have HAP := Lib.hid (⟨hown, hrow, hone, hsz⟩ : _ ∧ _ ∧ _ ∧ _)
  clear hbe hown hrow hone hsz
  go_upto_if 26 with (at_builtin; refine wpList_append_row (w1.alloc (.cells #[] 9)) (by rfl) (.tmp 19) (.tmp 24) 46 (by rfl) w1.heap.size 9 i0 (.string ⟨#[]⟩) 1 16 Try.underlying46 hi hz0 hz1 hz2 (by rfl) (by decide) (.slice (some ⟨w1.heap.size, 0, none⟩) 0 0) 0 [] (by rfl) HAP.out.1 (.slice a0 m cap0) m (ss.map Value.string) (by rfl) HAP.out.2.1 HAP.out.2.2.1 (by unfold maxLen; omega) (by omega) (by rw [HAP.out.2.2.2]; omega) ?_; intro a2 c2 w2 hap)
  have HB2 := Lib.hid ((Below.refl w1.heap.size w1).trans ((((Below.refl _ _).alloc (Nat.le_refl _) (.cells #[] 9)).grown hap.grown (by rw [HAP.out.2.2.2]; omega) (fun k hk => (HAP.out.1.lt k hk).1))))
  have hzm : 0 + m = m := by omega
  have ho2 := hap.own
  rw [hzm, List.nil_append] at ho2
  have HO2 := Lib.hid ho2
  clear hap hzm ho2 HAP HR1
  go_cut [5, 6] from 27 to 65 (fun _ _ wx => Hid (Sorts w1 a2 m c2 ss wx))
  case first =>
    cases b with
    | false =>
      go_wp2_with fail
      go_meet
      exact Lib.hid ⟨⟨ss, List.Perm.refl _, HO2.out⟩, HB2.out⟩
    | true =>
      go_wp2_with fail
      go_loopw [5, 6] (fun i _ wr => ∃ j : Nat, i = .int .i64 (j : Int) ∧ j ≤ m ∧ Hid (Sorts w1 a2 m c2 ss wr)) (fun i _ _ => m - (intOf i).toNat)
      case atStart => exact ⟨0, rfl, Nat.zero_le _, Lib.hid ⟨⟨ss, List.Perm.refl _, HO2.out⟩, HB2.out⟩⟩
      case round =>
        obtain ⟨j, rfl, hj, HS⟩ := hrel
        have hj0 : (0 : Int) ≤ (j : Int) := by omega
        by_cases hjm : j < m
        · have dj : (j : Int) < (m : Int) := by omega
          go_wp2_with fail
          go_loopw [6] (fun s6 wr => ∃ k : Nat, s6 = .int .i64 (k : Int) ∧ k ≤ j ∧ Hid (Sorts w1 a2 m c2 ss wr)) (fun s6 _ => (intOf s6).toNat)
          case atStart => exact ⟨j, rfl, Nat.le_refl _, HS⟩
          case round =>
            clear HS
            obtain ⟨k, rfl, hk, HS⟩ := hrel
            rcases k with _ | q
            · have e0 : decide ((0 : Int) < 0) = false := rfl
              have mixed : Try.prog.follows .mixedOrders = true := by kernel_rfl
              go_wp2_with fail
              go_quiet (fail)
              go_wp2_with fail
              exact ⟨⟨j + 1, by go_num, by omega, Lib.hid (HS.out.drewN nq)⟩, by simp [intOf] <;> omega⟩
            · obtain ⟨g, x, y, rfl, hg2, c0, c1, f0, f1, hsw⟩ := HS.out.swap q (by omega)
              have HSW := Lib.hid hsw
              have d0 : (0 : Int) ≤ (q : Int) + 1 := by omega
              have d1 : (q : Int) + 1 < (m : Int) := by omega
              have d2 : (0 : Int) ≤ (q : Int) := by omega
              have d3 : (q : Int) < (m : Int) := by omega
              have d4 : (0 : Int) < (q : Int) + 1 := by omega
              have q1 : IntKind.i64.wrap ((q : Int) + 1 - 1) = (q : Int) := by rw [show (q : Int) + 1 - 1 = q by omega]; exact Go.IntWalk.i64_in _ (by omega)
              have e0 : decide ((0 : Int) < (q : Int) + 1) = true := by simp
              have mixed : Try.prog.follows .mixedOrders = true := by kernel_rfl
              clear hsw
              cases hbl : Op.bytesLess y.toList x.toList with
              | false =>
                go_wp2_with fail
                go_quiet (fail)
                go_wp2_with fail
                exact ⟨⟨j + 1, by go_num, by omega, Lib.hid (HS.out.drewN nq)⟩, by simp [intOf] <;> omega⟩
              | true =>
                go_wp2_with fail
                go_quiet (fail)
                go_upto_region 11 with fail
                have c0 : (wr.drewN nq).cell? ⟨g, q, none⟩ = some (.string x) := c0
                have c1 : (wr.drewN nq).cell? ⟨g, q + 1, none⟩ = some (.string y) := c1
                have f0 : (wr.drewN nq).frozen? ⟨g, q, none⟩ = false := f0
                have f1 : (wr.drewN nq).frozen? ⟨g, q + 1, none⟩ = false := f1
                have hg2 : g < (wr.drewN nq).heap.size := hg2
                have HSQ := Lib.hid (HSW.out nq).1
                clear HSW HS
                generalize wr.drewN nq = wq at *
                go_region
                go_wp2_with fail
                go_roundw
                case rel => exact ⟨q, by first | rfl | go_num, by omega, Lib.hid (HSQ.out.drewN 1)⟩
                case measure => simp [intOf]
        · have dj : ¬ (j : Int) < (m : Int) := by omega
          go_wp2_with fail
          go_meet
          exact HS
  case rest =>
    obtain ⟨⟨tt, hper, hot⟩, hbt⟩ := hcut.out
    have HTL : Hid (tt.length = m) := Lib.hid (by have := hot.1; simpa using this)
    have HTP : Hid ((packB tt).length ≤ 3999999) := Lib.hid (by rw [packB_length, ((hper.map (fun s => s.size + 4)).sum_nat)]; have := HP.out; rw [packB_length] at this; exact this)
    have hts : ∀ s ∈ tt, s.size ≤ 3999999 := by
      intro s hs
      have h1 := HTP.out
      rw [packB_length] at h1
      have h2 : ∀ l : List ByteArray, s ∈ l → s.size ≤ (l.map fun s => s.size + 4).sum := by
        intro l
        induction l with
        | nil => intro h; cases h
        | cons a l ih =>
          intro h
          simp only [List.map_cons, List.sum_cons]
          rcases List.mem_cons.1 h with rfl | h
          · omega
          · have := ih h; omega
      have := h2 tt hs
      omega
    have HTS := Lib.hid hts
    obtain ⟨S, hS⟩ : ∃ S : ByteArray, (⟨(packB tt).toArray⟩ : ByteArray) = S := ⟨_, rfl⟩
    have HSP : Hid (splitS S = (tt, true)) := Lib.hid (by rw [← hS]; exact splitS_packB tt (fun s hs => by have := hts s hs; omega))
    have HSZ : Hid (splitS (S ++ ⟨#[0]⟩) = (tt, false)) := Lib.hid (by rw [← hS]; exact split_more tt (fun s hs => by have := hts s hs; omega))
    have HSS : Hid (S.size ≤ 3999999) := Lib.hid (by rw [← hS]; show (packB tt).toArray.size ≤ _; rw [List.size_toArray]; exact HTP.out)
    have hpk : Calls Try.prog 18 #[.slice a2 m c2] wc fun e w' => e = .returned (.string S) ∧ Below wc.heap.size wc w' := by
      have := refPack_any (.slice a2 m c2) tt wc (by rw [HTL.out]; omega) (by rw [HTL.out]; exact Row.of_owns hot) (by have := HTP.out; omega)
      rw [hS] at this
      exact this
    have HPK := Lib.hid hpk
    have HROW := Lib.hid (Row.of_owns hot)
    have HBC := Lib.hid (HB1.out.trans (hbt.mono HB1.out.size))
    have HSK : Hid ((⟨(packB tt).toArray⟩ : ByteArray) = S) := Lib.hid hS
    clear hper hot hbt hcut hts hS hpk HO2 HB2 HB1 HL HP hmn hmn0 hmin0 hmin1 hmin2 hnn0 hnn1
    go_wp2_with fail
    (with_reducible refine HPK.out.mono ?_); rintro e w3 ⟨rfl, hb3⟩
    have HB3 := Lib.hid (HBC.out.trans (hb3.mono HBC.out.size))
    have HROW3 := Lib.hid (HROW.out.later hb3)
    clear hb3 HPK HROW HBC
    go_wp2_with fail
    (with_reducible refine (bagget_any S (by have := HSS.out; omega) _).mono ?_); rintro e w4 ⟨bv, er, rfl, o, hbg, hgb, hb4⟩
    obtain ⟨s4, rfl⟩ := isBag_agg hbg
    obtain ⟨x4, n4, y4, hs4⟩ : ∃ x m y, s4 = .slice x m y := by
      obtain ⟨a5, c5, xs5, e5, -⟩ := hbg
      simp only [Value.agg.injEq, Array.mk.injEq, List.cons.injEq, and_true] at e5
      exact ⟨_, _, _, e5⟩
    subst hs4
    have HB4 := Lib.hid (HB3.out.trans (hb4.mono HB3.out.size))
    have HROW4 := Lib.hid (HROW3.out.later hb4)
    have HBG := Lib.hid hbg
    have HGB := Lib.hid hgb
    clear hb4 hbg hgb HB3 HROW3
    go_upto_region 14 with fail
    obtain ⟨X, hX⟩ : ∃ X, w4.alloc (.cells #[.slice x4 n4 y4] TB) = X := ⟨_, rfl⟩
    have hf8 : Flds X w4.heap.size TB [.slice x4 n4 y4] := by rw [← hX]; exact Flds.new w4 TB [.slice x4 n4 y4]
    have hbX : Below w4.heap.size w4 X := by rw [← hX]; exact below_alloc1 _ _
    rw [hX]
    have HBX := Lib.hid (HB4.out.trans (hbX.mono HB4.out.size))
    have HROX := Lib.hid (HROW4.out.later hbX)
    have HBGX := Lib.hid (HBG.out.later hbX)
    generalize w4.heap.size = g8 at *
    have HF8 := Lib.hid hf8
    have HL8 := Lib.hid hf8.lt
    clear hX hbX HB4 HROW4 HBG hf8
    go_wp2_with fail
    go_loopw [10, 11] (fun sl i wr => ∃ (k : Nat) (al : Option Addr) (cl : Nat) (us : List Value) (ls : List (List V)), sl = .slice al k cl ∧ i = .int .i64 (k : Int) ∧ k ≤ m ∧ Hid (us.length = k ∧ wr.ownsRow X.heap.size 49 1 (.slice al k cl) k us ∧ RwT TV 0 wr us ls ∧ KeyRows (tt.take k) ls ∧ ∀ x ∈ tt.take k, errR x = 0) ∧ Hid (Below X.heap.size X wr)) (fun _ i _ => m - (intOf i).toNat)
    case atStart => exact ⟨0, none, 0, [], [], rfl, rfl, Nat.zero_le _, Lib.hid ⟨rfl, World.ownsRow_nil _ _ _ _, RwT.nil _ _ _, KeyRows.nil, fun x hx => by simp at hx⟩, Lib.hid (Below.refl _ _)⟩
    case round =>
      obtain ⟨k, al, cl, us, ls, rfl, rfl, hk, HI, HB⟩ := hrel
      have hd0 : (0 : Int) ≤ (k : Int) := by omega
      by_cases hkn : k < m
      · have dk : (k : Int) < (m : Int) := by omega
        have hks : k < tt.length := by rw [HTL.out]; exact hkn
        obtain ⟨b', off, cap', ea, hcell⟩ := (HROX.out.later HB.out).pos (by omega)
        simp only [Value.slice.injEq] at ea
        obtain ⟨rfl, -, rfl⟩ := ea
        have c0 := hcell k (by omega)
        rw [List.getElem?_map, List.getElem?_eq_getElem hks] at c0
        simp only [Option.map_some] at c0
        have htk : tt.take (k + 1) = tt.take k ++ [tt[k]] := List.take_succ_eq_append_getElem hks
        have hdr := fun (hb : errR tt[k] ≠ 0) => errK_first tt k hks HI.out.2.2.2.2 hb
        have HG := Lib.hid (fun (W : World) => get_parts tt[k] (by have := HTS.out _ (List.getElem_mem hks); omega) W)
        have HTK := Lib.hid htk
        have HDR := Lib.hid hdr
        generalize tt[k] = x at *
        clear hcell htk hdr
        by_cases h0 : errR x = 0
        · have HG0 : Hid (∀ W, Calls Try.prog 19 #[.string x] W fun e w' => ∃ (a : Option Addr) (c : Nat) (l : List V), e = .returned (.tuple #[.slice a l.length c, .int .i64 0]) ∧ Hid (w'.ownsRow W.heap.size TV 3 (.slice a l.length c) l.length (vCells l) ∧ Goods l ∧ (errR x = 0 → l.map encS = (splitS x).1) ∧ (errR x ≠ 0 → l = [] ∧ a = none ∧ c = 0)) ∧ Below W.heap.size W w') := Lib.hid (fun W => by have := HG.out W; rw [h0] at this; rw [h0]; exact this)
          have HE0 := Lib.hid h0
          clear HG h0 HDR
          go_wp2_with fail
          (with_reducible refine (HG0.out _).mono ?_); rintro e w4 ⟨a4, c4, l4, rfl, H4, hb4⟩
          have HB4 := Lib.hid (HB.out.trans (hb4.mono HB.out.size))
          obtain ⟨a5, c5, w5, hrun, ho5, hb5, hr5⟩ := apZ_rows (u := .slice a4 l4.length c4) (r := l4) k HI.out.1 (by omega) (owns_below HI.out.2.1 hb4) HB4.out.size (HI.out.2.2.1.later hb4) (owns_base H4.out.1 (fun g hg => Nat.zero_le _))
          have HP : Hid (KeyRows (tt.take (k + 1)) (ls ++ [l4]) ∧ ∀ y ∈ tt.take (k + 1), errR y = 0) := Lib.hid (by
            rw [HTK.out]
            refine ⟨HI.out.2.2.2.1.snoc H4.out.2.1 (H4.out.2.2.1 HE0.out), fun y hy => ?_⟩
            rcases List.mem_append.1 hy with hy | hy
            · exact HI.out.2.2.2.2 y hy
            · rw [List.mem_singleton.1 hy]; exact HE0.out)
          have HU : Hid ((us ++ [Value.slice a4 l4.length c4]).length = k + 1) := Lib.hid (by rw [List.length_append, HI.out.1]; rfl)
          have HO5 := Lib.hid ho5
          have HR5 := Lib.hid hr5
          have HB5 := Lib.hid (HB4.out.trans hb5)
          clear ho5 hb5 hr5 hb4
          go_wp2_with fail
          go_roundw
          case rel => exact ⟨k + 1, a5, c5, us ++ [.slice a4 l4.length c4], ls ++ [l4], rfl, by go_num, by omega, Lib.hid ⟨HU.out, HO5.out, HR5.out, HP.out.1, HP.out.2⟩, HB5⟩
          case measure => simp [intOf]; omega
        · obtain ⟨hd1, hd2⟩ := HDR.out h0
          obtain ⟨he, ho0⟩ := HGB.out.bad HSP.out hd1
          rw [hd2] at he
          subst he
          subst ho0
          have e1 : (errR x != 0) = true := by simpa using h0
          clear HDR hd1 hd2 h0
          obtain ⟨E, hE⟩ : ∃ E, errR x = E := ⟨_, rfl⟩
          rw [hE] at HG e1
          rw [hE]
          clear hE
          go_wp2_with fail
          (with_reducible refine (HG.out _).mono ?_); rintro e w4 ⟨a4, c4, l4, rfl, H4, hb4⟩
          have HB4 := Lib.hid (HB.out.trans (hb4.mono HB.out.size))
          have HF4 : Hid (Flds w4 g8 TB [.slice x4 n4 y4]) := Lib.hid ((HB4.out.block g8 HL8.out).trans HF8.out)
          have q0 := HF4.out.cell 0
          have ql := HF4.out.lt
          simp only [List.getElem?_cons_zero] at q0
          have HLN := Lib.hid (len_isB (by decide : 0 ≤ 1000000) (IsB.of (HBGX.out.later HB4.out) (fun _ => rfl) rfl : IsB (cnt []) 0 _ w4))
          clear hb4
          go_wp2_with fail
          (with_reducible refine HLN.out.mono ?_); rintro e w5 ⟨v, rfl, rfl, hb5⟩
          have HB5 := Lib.hid (HBX.out.trans ((HB4.out.trans (hb5.mono HB4.out.size)).mono HBX.out.size))
          clear hb5 HLN
          go_wp2_with fail
          go_ret
          exact ⟨rfl, HB5.out⟩
      · have dk : ¬ (k : Int) < (m : Int) := by omega
        obtain rfl : k = m := by omega
        obtain ⟨hul, ho, hr, hkr, hz⟩ := HI.out
        rw [List.take_of_length_le (by rw [HTL.out]; exact Nat.le_refl _)] at hkr hz
        have HGD := Lib.hid (HGB.out.good HSP.out hz hkr)
        have HSH := Lib.hid (keyRows_short hkr hz 3999999 HTS.out)
        have HLL : Hid (ls.length = k) := Lib.hid (by rw [hkr.1, HTL.out])
        have HKR := Lib.hid hkr
        have HZ := Lib.hid hz
        have HUL := Lib.hid hul
        have HO := Lib.hid ho
        have HR := Lib.hid hr
        clear hul ho hr hkr hz HI HTS HGB HROX dk hk hkn
        go_wp2_with fail
        go_loopw [14] (fun i wx => ∃ q : Nat, i = .int .i64 ((q + 1 : Nat) : Int) ∧ q ≤ k ∧ Hid (∀ (j : Nat) x y, j + 1 < q + 1 → ls[j]? = some x → ls[j + 1]? = some y → beforeL y x = false) ∧ Hid (Below wr.heap.size wr wx)) (fun i _ => k + 1 - (intOf i).toNat)
        case atStart => exact ⟨0, rfl, Nat.zero_le _, Lib.hid (fun j x y h => by omega), Lib.hid (Below.refl _ _)⟩
        case round =>
          obtain ⟨q, rfl, hq, HA, HBQ⟩ := hrel
          by_cases hqk : q + 1 < k
          · have d0 : (0 : Int) ≤ (q : Int) + 1 := by omega
            have d1 : (q : Int) + 1 < (k : Int) := by omega
            have d2 : (0 : Int) ≤ (q : Int) := by omega
            have d3 : (q : Int) < (k : Int) := by omega
            have q1 : IntKind.i64.wrap ((q : Int) + 1 - 1) = (q : Int) := by rw [show (q : Int) + 1 - 1 = q by omega]; exact Go.IntWalk.i64_in _ (by omega)
            have q2 : IntKind.i64.wrap (q : Int) = (q : Int) := Go.IntWalk.i64_in _ (by omega)
            have q3 : (q : Int) + 1 - 1 = (q : Int) := by omega
            have l0 : q < ls.length := by rw [HLL.out]; omega
            have l1 : q + 1 < ls.length := by rw [HLL.out]; omega
            have u0 : q < us.length := by rw [HUL.out]; omega
            have u1 : q + 1 < us.length := by rw [HUL.out]; omega
            obtain ⟨g, rfl, hg1, hg2, hc, -⟩ := owns_cellAt HO.out (by omega)
            have r0 := HR.out.2 q _ _ (List.getElem?_eq_getElem u0) (List.getElem?_eq_getElem l0)
            have r1 := HR.out.2 (q + 1) _ _ (List.getElem?_eq_getElem u1) (List.getElem?_eq_getElem l1)
            have c0 := (hc q (by omega)).trans (List.getElem?_eq_getElem u0)
            have c1 := (hc (q + 1) (by omega)).trans (List.getElem?_eq_getElem u1)
            have g0 := HSH.out _ (List.getElem_mem l0)
            have g1 := HSH.out _ (List.getElem_mem l1)
            have HE0 := Lib.hid (List.getElem?_eq_getElem l0)
            have HE1 := Lib.hid (List.getElem?_eq_getElem l1)
            generalize us[q] = v0 at *
            generalize us[q + 1] = v1 at *
            generalize ls[q] = p0 at *
            generalize ls[q + 1] = p1 at *
            obtain ⟨b0, f0, rfl⟩ := owns_shape r0
            obtain ⟨b1, f1, rfl⟩ := owns_shape r1
            have hgw : g < wr.heap.size := Nat.lt_of_lt_of_le hg2 HBQ.out.size
            have k0 := cell_later HBQ.out c0
            have k1 := cell_later HBQ.out c1
            have hcmp := fun W (hb : Below wr.heap.size wr W) => rcompare_any (.slice b0 p0.length f0) (.slice b1 p1.length f1) p0 p1 (by omega) (by omega) W ((Row.of_owns (owns_below r0 HBQ.out)).later hb) ((Row.of_owns (owns_below r1 HBQ.out)).later hb)
            have hlt := cmpL_lt p0 p1 g0.1 g1.1
            obtain ⟨R, hR⟩ : ∃ R, cmpL p0 p1 = R := ⟨_, rfl⟩
            rw [hR] at hcmp hlt
            have hcx : ∀ n os, Calls Try.prog 21 #[.slice b0 p0.length f0, .slice b1 p1.length f1] (grow (wr.drewN n) os) fun e w' => e = .returned (.int .i64 R) ∧ ∃ q os', w' = grow ((grow (wr.drewN n) os).drewN q) os' := fun n os => (hcmp _ (below_growN wr n os)).mono (fun e w' h => ⟨h.1, h.2.form⟩)
            have y0 : ∀ n os, (grow (wr.drewN n) os).cell? ⟨g, q, none⟩ = some (.slice b0 p0.length f0) := fun n os => cell_grown hgw k0 n os
            have y1 : ∀ n os, (grow (wr.drewN n) os).cell? ⟨g, q + 1, none⟩ = some (.slice b1 p1.length f1) := fun n os => cell_grown hgw k1 n os
            have mixed : Try.prog.follows .mixedOrders = true := by kernel_rfl
            have HLT := Lib.hid hlt
            clear hc r0 r1 c0 c1 g0 g1 k0 k1 hcmp hlt hR l0 l1 u0 u1 hg1 hg2
            by_cases hpos : 0 < R
            · obtain ⟨hn1, hn2, hn3⟩ : ¬ Adj ls ∧ er = 4 ∧ o = [] := by
                have hbf := HLT.out.2.1 hpos
                have hna : ¬ Adj ls := fun h => by have := h q p0 p1 HE0.out HE1.out; rw [this] at hbf; cases hbf
                rcases HGD.out with h | h
                · exact h
                · exact absurd h.1 hna
              subst hn2
              subst hn3
              have e1 : decide (0 < R) = true := by simpa using hpos
              clear hn1 HLT
              go_wp2_with fail
              go_quiet_grown (first | (go_at_call 21; refine Calls.grown_of (hcx _ _)))
              clear hcx y0 y1 mixed
              have HB5 := Lib.hid (HBQ.out.trans ((below_growN wr nq osq).mono HBQ.out.size))
              generalize grow (wr.drewN nq) osq = w5 at *
              have HB6 := Lib.hid (HB.out.trans (HB5.out.mono HB.out.size))
              have HF4 : Hid (Flds w5 g8 TB [.slice x4 n4 y4]) := Lib.hid ((HB6.out.block g8 HL8.out).trans HF8.out)
              have q0 := HF4.out.cell 0
              have ql := HF4.out.lt
              simp only [List.getElem?_cons_zero] at q0
              have HLN := Lib.hid (len_isB (by decide : 0 ≤ 1000000) (IsB.of (HBGX.out.later HB6.out) (fun _ => rfl) rfl : IsB (cnt []) 0 _ w5))
              go_wp2_with fail
              (with_reducible refine HLN.out.mono ?_); rintro e w6 ⟨v, rfl, rfl, hb5⟩
              have HB7 := Lib.hid (HBX.out.trans ((HB6.out.trans (hb5.mono HB6.out.size)).mono HBX.out.size))
              clear hb5 HLN
              go_wp2_with fail
              go_ret
              exact ⟨rfl, HB7.out⟩
            · have e1 : decide (0 < R) = false := by simpa using hpos
              have HNB : Hid (beforeL p1 p0 = false) := Lib.hid (by
                cases h : beforeL p1 p0 with
                | false => rfl
                | true => exact absurd (HLT.out.2.2 h) hpos)
              clear HLT
              go_wp2_with fail
              go_quiet_grown (first | (go_at_call 21; refine Calls.grown_of (hcx _ _)))
              clear hcx y0 y1 mixed
              have HB5 := Lib.hid (HBQ.out.trans ((below_growN wr nq osq).mono HBQ.out.size))
              generalize grow (wr.drewN nq) osq = w5 at *
              go_wp2_with fail
              go_roundw
              case rel =>
                refine ⟨q + 1, by go_num, by omega, Lib.hid (fun j x y hj h1 h2 => ?_), HB5⟩
                by_cases hjq : j = q
                · subst hjq
                  have a1 := h1.symm.trans HE0.out
                  have a2 := h2.symm.trans HE1.out
                  simp only [Option.some.injEq] at a1 a2
                  rw [a1, a2]; exact HNB.out
                · exact HA.out j x y (by omega) h1 h2
              case measure => simp [intOf]; omega
          · have d1 : ¬ (q : Int) + 1 < (k : Int) := by omega
            have hadj : Adj ls := fun j x y h1 h2 => HA.out j x y (by have := (List.getElem?_eq_some_iff.1 h2).1; rw [HLL.out] at this; omega) h1 h2
            obtain ⟨-, hn2, hn3, hn4⟩ : Adj ls ∧ er = 0 ∧ (∀ r, cnt o r = cnt (once ls) r) ∧ total o = ls.length := by
              rcases HGD.out with h | h
              · exact absurd hadj h.1
              · exact h
            subst hn2
            have HC := Lib.hid hn3
            have HT := Lib.hid hn4
            have HAD := Lib.hid hadj
            have HGT := Lib.hid (fun W => bagget_any (S ++ ⟨#[0]⟩) (by rw [ByteArray.size_append]; have := HSS.out; show S.size + 1 ≤ 4000000; omega) W)
            clear hn3 hn4 hadj HGD
            have hSz : S.size ≤ 3999999 := HSS.out
            go_wp2_with fail
            (with_reducible refine (HGT.out _).mono ?_); rintro e w5 ⟨bv, er, rfl, o2, hbg, hgb, hb5⟩
            obtain ⟨hr2, ho2⟩ := hgb.cut HSZ.out
            subst hr2
            subst ho2
            obtain ⟨s5, rfl⟩ := isBag_agg hbg
            obtain ⟨x5, n5, y5, hs5⟩ : ∃ x m y, s5 = .slice x m y := by
              obtain ⟨a5, c5, xs5, e5, -⟩ := hbg
              simp only [Value.agg.injEq, Array.mk.injEq, List.cons.injEq, and_true] at e5
              exact ⟨_, _, _, e5⟩
            subst hs5
            have HB5 := Lib.hid (HBQ.out.trans (hb5.mono HBQ.out.size))
            have HBG5 := Lib.hid hbg
            clear hb5 hbg hgb HGT
            go_upto_region 28 with fail
            obtain ⟨Z, hZ⟩ : ∃ Z, w5.alloc (.cells #[.slice x5 n5 y5] TB) = Z := ⟨_, rfl⟩
            have hf15 : Flds Z w5.heap.size TB [.slice x5 n5 y5] := by rw [← hZ]; exact Flds.new w5 TB [.slice x5 n5 y5]
            have hbZ : Below w5.heap.size w5 Z := by rw [← hZ]; exact below_alloc1 _ _
            rw [hZ]
            have HBZ := Lib.hid (HB5.out.trans (hbZ.mono HB5.out.size))
            have HBXZ := Lib.hid (HB.out.trans (HBZ.out.mono HB.out.size))
            have HF8Z : Hid (∀ W1, Below Z.heap.size Z W1 → W1.cell? ⟨g8, 0, none⟩ = some (.slice x4 n4 y4)) := Lib.hid (fun W1 h => by
              have h8 : Flds Z g8 TB [.slice x4 n4 y4] := (HBXZ.out.block g8 HL8.out).trans HF8.out
              exact (h8.later h).cell 0)
            have HF15 : Hid (∀ W1, Below Z.heap.size Z W1 → W1.cell? ⟨w5.heap.size, 0, none⟩ = some (.slice x5 n5 y5)) := Lib.hid (fun W1 h => (hf15.later h).cell 0)
            have HIB : Hid (IsB (cnt (once ls)) ls.length (.agg #[.slice x4 n4 y4]) Z) := Lib.hid (IsB.of (HBGX.out.later HBXZ.out) HC.out HT.out)
            have HIB2 : Hid (IsB (cnt []) 0 (.agg #[.slice x5 n5 y5]) Z) := Lib.hid (IsB.of (HBG5.out.later hbZ) (fun _ => rfl) rfl)
            have HKY : Hid (∀ W1, Below Z.heap.size Z W1 → Calls Try.prog 12 #[.agg #[.slice x4 n4 y4]] W1 fun e w' => e = .returned (.string S) ∧ Below W1.heap.size W1 w') := Lib.hid (fun W1 h => by
              have hk := keysB_sorted HKR.out HZ.out HAD.out HBGX.out.strict HC.out
              have := bagkey_room (.agg #[.slice x4 n4 y4]) o (by rw [HT.out, HLL.out]; omega) (by rw [hk]; have := HTP.out; omega) W1 ((HBGX.out.later HBXZ.out).later h)
              rw [hk, HSK.out] at this
              exact this)
            have HOF : Hid (∀ W1, Below Z.heap.size Z W1 → Calls Try.prog 8 #[.slice al k cl] W1 fun e w' => ∃ b, e = .returned b ∧ IsB (cnt (once ls)) ls.length b w' ∧ Below W1.heap.size W1 w') := Lib.hid (fun W1 h => by
              have hb' := HBZ.out.trans (h.mono HBZ.out.size)
              refine (of_any (.slice al k cl) us ls (by rw [HUL.out]; omega) (fun l hl => (HSH.out l hl).1) (fun l hl => by have := (HSH.out l hl).2; omega) W1 (by rw [HUL.out]; exact (Row.of_owns HO.out).later hb') (HR.out.later hb').rws (fun u hu m c e => by
                obtain ⟨j, hj, rfl⟩ := List.getElem_of_mem hu
                exact owns_nilcap (HR.out.2 j _ _ (List.getElem?_eq_getElem hj) (List.getElem?_eq_getElem (by rw [← HR.out.1]; exact hj))) m c e)).mono ?_
              rintro e w' ⟨bv, rfl, o', h1, h2, h3, h4⟩
              exact ⟨bv, rfl, IsB.of h1 h2 h3, h4⟩)
            have hls8 : ls.length ≤ 8 := by rw [HLL.out]; omega
            have HBF := Lib.hid (HBX.out.trans (HBXZ.out.mono HBX.out.size))
            clear hf15 hbZ hZ HO HR HUL HBG5 HB5 HBZ HBXZ HF8 HL8 HBGX HBQ HA HKR HZ HAD HC HT HSH HTP HSK HSZ HSP HTL hSz
            generalize w5.heap.size = g15 at *
            apply ag.region_calm (ag.Spec.val _ :: ag.Spec.val _ :: ag.Spec.val (.bool true) :: ag.Spec.val _ :: ag.Spec.sat (fun v _ => v = .string S) ag.grew :: ag.Spec.val _ :: ag.Spec.val (.bool true) :: ag.Spec.val (.bool true) :: ag.Spec.val (.bool true) :: ag.Spec.val _ :: ag.Spec.val _ :: ag.Spec.sat (IsB (cnt (once ls)) ls.length) ag.grew :: ag.Spec.sat (fun v _ => v = .bool true) ag.grew :: ag.Spec.val (.bool true) :: ag.Spec.val (.bool true) :: ag.Spec.val _ :: ag.Spec.val (.bool true) :: ag.Spec.val (.bool true) :: ag.Spec.val (.bool true) :: ag.Spec.val _ :: ag.Spec.sat (fun v _ => v = .int .i64 ((0 : Nat) : Int)) ag.grew :: ag.Spec.val (.bool true) :: ag.Spec.val (.bool true) :: ag.Spec.val (.bool true) :: [])
            case hm => kernel_rfl
            case hB => kernel_rfl
            case hlen => rfl
            case hc => exact ⟨⟨ag.lasts_eq _, rfl⟩, ⟨lasts_isB _ _, rfl⟩, ⟨ag.lasts_eq _, rfl⟩, ⟨ag.lasts_eq _, rfl⟩, trivial⟩
            apply ag.walk_val
            · rfl
            · intro W1 hS hE
              clear hS hE
              unfold ag.does
              go_simp
              first | done | exact ⟨rfl, rfl⟩ | rfl | (exact ⟨by go_num, rfl⟩) | (simp; done) | trace_state
            simp only [Act.put, List.setIfInBounds_toArray, List.set_cons_zero, List.set_cons_succ]
            apply ag.walk_val
            · rfl
            · intro W1 hS hE
              clear hS hE
              unfold ag.does
              go_simp
              first | done | exact ⟨rfl, rfl⟩ | rfl | (exact ⟨by go_num, rfl⟩) | (simp; done) | trace_state
            simp only [Act.put, List.setIfInBounds_toArray, List.set_cons_zero, List.set_cons_succ]
            apply ag.walk_val
            · rfl
            · intro W1 hS hE
              clear hS hE
              unfold ag.does
              go_simp
              first | done | exact ⟨rfl, rfl⟩ | rfl | (exact ⟨by go_num, rfl⟩) | (simp; done) | trace_state
            simp only [Act.put, List.setIfInBounds_toArray, List.set_cons_zero, List.set_cons_succ]
            apply ag.walk_val
            · rfl
            · intro W1 hS hE
              have c1 := HF8Z.out W1 hS
              clear hS hE
              unfold ag.does
              go_simp
              first | done | exact ⟨rfl, rfl⟩ | rfl | (exact ⟨by go_num, rfl⟩) | (simp; done) | trace_state
            simp only [Act.put, List.setIfInBounds_toArray, List.set_cons_zero, List.set_cons_succ]
            refine ag.walk_such (by rfl) (fun W1 hS hE => ?_) (fun y4 => ?_)
            · clear hE
              have hk := HKY.out W1 hS
              unfold ag.does
              go_simp
              first | done | (refine hk.mono ?_; rintro e W2 ⟨rfl, hb⟩; exact ⟨_, rfl, rfl, hb⟩)
            simp only [Act.put, List.setIfInBounds_toArray, List.set_cons_zero, List.set_cons_succ]
            apply ag.walk_val
            · rfl
            · intro W1 hS hE
              clear hS hE
              unfold ag.does
              go_simp
              first | done | exact ⟨rfl, rfl⟩ | rfl | (exact ⟨by go_num, rfl⟩) | (simp; done) | trace_state
            simp only [Act.put, List.setIfInBounds_toArray, List.set_cons_zero, List.set_cons_succ]
            apply ag.walk_val
            · rfl
            · intro W1 hS hE
              have h4 : y4 = .string S := hE.of 4 (by kernel_rfl)
              subst h4
              clear hS hE
              unfold ag.does
              go_simp
              first | done | exact ⟨rfl, rfl⟩ | rfl | (exact ⟨by go_num, rfl⟩) | (simp; done) | trace_state
            simp only [Act.put, List.setIfInBounds_toArray, List.set_cons_zero, List.set_cons_succ]
            apply ag.walk_val
            · rfl
            · intro W1 hS hE
              clear hS hE
              unfold ag.does
              go_simp
              first | done | exact ⟨rfl, rfl⟩ | rfl | (exact ⟨by go_num, rfl⟩) | (simp; done) | trace_state
            simp only [Act.put, List.setIfInBounds_toArray, List.set_cons_zero, List.set_cons_succ]
            apply ag.walk_val
            · rfl
            · intro W1 hS hE
              clear hS hE
              unfold ag.does
              go_simp
              first | done | exact ⟨rfl, rfl⟩ | rfl | (exact ⟨by go_num, rfl⟩) | (simp; done) | trace_state
            simp only [Act.put, List.setIfInBounds_toArray, List.set_cons_zero, List.set_cons_succ]
            apply ag.walk_val
            · rfl
            · intro W1 hS hE
              have c1 := HF8Z.out W1 hS
              clear hS hE
              unfold ag.does
              go_simp
              first | done | exact ⟨rfl, rfl⟩ | rfl | (exact ⟨by go_num, rfl⟩) | (simp; done) | trace_state
            simp only [Act.put, List.setIfInBounds_toArray, List.set_cons_zero, List.set_cons_succ]
            apply ag.walk_val
            · rfl
            · intro W1 hS hE
              clear hS hE
              unfold ag.does
              go_simp
              first | done | exact ⟨rfl, rfl⟩ | rfl | (exact ⟨by go_num, rfl⟩) | (simp; done) | trace_state
            simp only [Act.put, List.setIfInBounds_toArray, List.set_cons_zero, List.set_cons_succ]
            refine ag.walk_such (by rfl) (fun W1 hS hE => ?_) (fun y11 => ?_)
            · clear hE
              have ho := HOF.out W1 hS
              unfold ag.does
              go_simp
              first | done | (exact ho)
            simp only [Act.put, List.setIfInBounds_toArray, List.set_cons_zero, List.set_cons_succ]
            refine ag.walk_such (by rfl) (fun W1 hS hE => ?_) (fun y12 => ?_)
            · have h11 : IsB (cnt (once ls)) ls.length y11 W1 := hE.of 11 (by kernel_rfl)
              have h0 := HIB.out.later hS
              clear hE
              unfold ag.does
              go_simp
              first | done | (exact same_isB (by omega) (by omega) h0 h11 (fun r => rfl))
            simp only [Act.put, List.setIfInBounds_toArray, List.set_cons_zero, List.set_cons_succ]
            apply ag.walk_val
            · rfl
            · intro W1 hS hE
              have h12 : y12 = .bool true := hE.of 12 (by kernel_rfl)
              subst h12
              clear hS hE
              unfold ag.does
              go_simp
              first | done | exact ⟨rfl, rfl⟩ | rfl | (exact ⟨by go_num, rfl⟩) | (simp; done) | trace_state
            simp only [Act.put, List.setIfInBounds_toArray, List.set_cons_zero, List.set_cons_succ]
            apply ag.walk_val
            · rfl
            · intro W1 hS hE
              clear hS hE
              unfold ag.does
              go_simp
              first | done | exact ⟨rfl, rfl⟩ | rfl | (exact ⟨by go_num, rfl⟩) | (simp; done) | trace_state
            simp only [Act.put, List.setIfInBounds_toArray, List.set_cons_zero, List.set_cons_succ]
            apply ag.walk_val
            · rfl
            · intro W1 hS hE
              clear hS hE
              unfold ag.does
              go_simp
              first | done | exact ⟨rfl, rfl⟩ | rfl | (exact ⟨by go_num, rfl⟩) | (simp; done) | trace_state
            simp only [Act.put, List.setIfInBounds_toArray, List.set_cons_zero, List.set_cons_succ]
            apply ag.walk_val
            · rfl
            · intro W1 hS hE
              clear hS hE
              unfold ag.does
              go_simp
              first | done | exact ⟨rfl, rfl⟩ | rfl | (exact ⟨by go_num, rfl⟩) | (simp; done) | trace_state
            simp only [Act.put, List.setIfInBounds_toArray, List.set_cons_zero, List.set_cons_succ]
            apply ag.walk_val
            · rfl
            · intro W1 hS hE
              clear hS hE
              unfold ag.does
              go_simp
              first | done | exact ⟨rfl, rfl⟩ | rfl | (exact ⟨by go_num, rfl⟩) | (simp; done) | trace_state
            simp only [Act.put, List.setIfInBounds_toArray, List.set_cons_zero, List.set_cons_succ]
            apply ag.walk_val
            · rfl
            · intro W1 hS hE
              clear hS hE
              unfold ag.does
              go_simp
              first | done | exact ⟨rfl, rfl⟩ | rfl | (exact ⟨by go_num, rfl⟩) | (simp; done) | trace_state
            simp only [Act.put, List.setIfInBounds_toArray, List.set_cons_zero, List.set_cons_succ]
            apply ag.walk_val
            · rfl
            · intro W1 hS hE
              have c1 := HF15.out W1 hS
              clear hS hE
              unfold ag.does
              go_simp
              first | done | exact ⟨rfl, rfl⟩ | rfl | (exact ⟨by go_num, rfl⟩) | (simp; done) | trace_state
            simp only [Act.put, List.setIfInBounds_toArray, List.set_cons_zero, List.set_cons_succ]
            refine ag.walk_such (by rfl) (fun W1 hS hE => ?_) (fun y20 => ?_)
            · have h0 := HIB2.out.later hS
              clear hE
              unfold ag.does
              go_simp
              first | done | (exact len_isB (Nat.zero_le _) h0)
            simp only [Act.put, List.setIfInBounds_toArray, List.set_cons_zero, List.set_cons_succ]
            apply ag.walk_val
            · rfl
            · intro W1 hS hE
              have h20 : y20 = .int .i64 ((0 : Nat) : Int) := hE.of 20 (by kernel_rfl)
              subst h20
              clear hS hE
              unfold ag.does
              go_simp
              first | done | exact ⟨rfl, rfl⟩ | rfl | (exact ⟨by go_num, rfl⟩) | (simp; done) | trace_state
            simp only [Act.put, List.setIfInBounds_toArray, List.set_cons_zero, List.set_cons_succ]
            apply ag.walk_val
            · rfl
            · intro W1 hS hE
              clear hS hE
              unfold ag.does
              go_simp
              first | done | exact ⟨rfl, rfl⟩ | rfl | (exact ⟨by go_num, rfl⟩) | (simp; done) | trace_state
            simp only [Act.put, List.setIfInBounds_toArray, List.set_cons_zero, List.set_cons_succ]
            apply ag.walk_val
            · rfl
            · intro W1 hS hE
              clear hS hE
              unfold ag.does
              go_simp
              first | done | exact ⟨rfl, rfl⟩ | rfl | (exact ⟨by go_num, rfl⟩) | (simp; done) | trace_state
            simp only [Act.put, List.setIfInBounds_toArray, List.set_cons_zero, List.set_cons_succ]
            refine ag.walk_nil (fun w6 hS hF hP => ?_)
            clear hP
            clear hF
            have HS := Lib.hid (HBF.out.trans (hS.mono HBF.out.size))
            clear hS
            go_wp2_with fail
            go_ret
            exact ⟨rfl, HS.out⟩
end Go.Proofs.Ytpkkhbmlclicfaa.val
