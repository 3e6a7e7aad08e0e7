/- The law RowReads, walked. -/
import Derived.Test.YtpkkhbmlclicfaaDoorRowT
import Derived.Test.YtpkkhbmlclicfaaDoorOwn
import Derived.Deep.AppendLies
import Derived.Deep.RegionLaw
import Derived.Deep.RegionWith
namespace Go.Proofs.YtpkkhbmlclicfaaDoor.val
set_option linter.unusedVariables false
open Go.RowKit
attribute [local go_sem high] run_min_keep

/-- a text, cut -/
def cutT (n : Int) (s : ByteArray) : ByteArray := s.extract 0 (min (s.size : Int) n).toNat
theorem cutT_size (n : Int) (s : ByteArray) : (cutT n s).size ≤ n.toNat := by unfold cutT; rw [ByteArray.size_extract]; omega
def shortL (l : List ByteArray) (k : Nat) : List ByteArray := (l.take k).map (cutT 80)
theorem shortL_len (l : List ByteArray) (k : Nat) (h : k ≤ l.length) : (shortL l k).length = k := by unfold shortL; rw [List.length_map, List.length_take]; omega
theorem packB_short (l : List ByteArray) (k : Nat) (h : k ≤ l.length) : (packB (shortL l k)).length ≤ k * 84 := by
  rw [packB_length]
  have hl := shortL_len l k h
  have : ∀ m : List ByteArray, (∀ s ∈ m, s.size ≤ 80) → (m.map fun s => s.size + 4).sum ≤ m.length * 84 := by
    intro m
    induction m with
    | nil => simp
    | cons s m ih =>
      intro hm
      have h1 := ih (fun x hx => hm x (by simp [hx]))
      have h2 := hm s (by simp)
      simp only [List.map_cons, List.sum_cons, List.length_cons]
      omega
  have := this (shortL l k) (fun s hs => by
    unfold shortL at hs
    obtain ⟨x, _, rfl⟩ := List.mem_map.1 hs
    exact cutT_size 80 x)
  omega
theorem row_strings_at {w : World} {v : Value} {l : List ByteArray} (h : Row w v 1 l.length (l.map Value.string)) (k : Nat) (hk : k < l.length) : ∃ b off cap, v = .slice (some ⟨b, off, none⟩) l.length cap ∧ w.cell? ⟨b, off + k, none⟩ = some (.string l[k]) := by
  obtain ⟨b, off, cap, hv, hc⟩ := h.pos (by omega)
  refine ⟨b, off, cap, hv, ?_⟩
  have := hc k (by omega)
  rw [List.getElem?_map, List.getElem?_eq_getElem hk] at this
  exact this

theorem shape_cons {x : ByteArray} (h : 0 < x.size) : ∃ r, x.data.toList = x[0] :: r ∧ r.length + 1 = x.size := by
  have hl : x.data.toList.length = x.size := by rw [← ByteArray.size_data]; simp
  refine ⟨x.data.toList.drop 1, ?_, by rw [List.length_drop]; omega⟩
  have := List.drop_eq_getElem_cons (l := x.data.toList) (i := 0) (by omega)
  rw [List.drop_zero] at this
  exact this
theorem sh_0 {x : ByteArray} (h : 0 < x.size) (hb : x[0].toNat = 0) : shapeB x = decide (x.size = 1) := by
  obtain ⟨r, h1, h2⟩ := shape_cons h
  have e : x[0] = 0 := UInt8.toNat_inj.1 hb
  unfold shapeB
  rw [h1, e]
  simp only [if_true]
  cases r with
  | nil => simp at h2; simp [← h2]
  | cons c r => simp at h2; simp; omega
theorem sh_1n {x : ByteArray} (h : 0 < x.size) (hb : x[0].toNat = 1) (hs : x.size ≠ 2) : shapeB x = false := by
  obtain ⟨r, h1, h2⟩ := shape_cons h
  have e : x[0] = 1 := UInt8.toNat_inj.1 hb
  unfold shapeB
  rw [h1, e]
  match r, h2 with
  | [], h2 => rfl
  | [c], h2 => exact absurd h2.symm hs
  | _ :: _ :: _, h2 => rfl
theorem sh_1 {x : ByteArray} (h : 1 < x.size) (hb : x[0].toNat = 1) (hs : x.size = 2) : shapeB x = decide (x[1].toNat < 2) := by
  obtain ⟨r, h1, h2⟩ := shape_cons (x := x) (by omega)
  have e : x[0] = 1 := UInt8.toNat_inj.1 hb
  have hl : x.data.toList.length = x.size := by rw [← ByteArray.size_data]; simp
  have h3 : x.data.toList[1]? = some x[1] := by rw [List.getElem?_eq_getElem (by omega)]; rfl
  unfold shapeB
  rw [h1] at h3 ⊢
  rw [e]
  match r, h2, h3 with
  | [], h2, _ => simp at h2; omega
  | [c], h2, h3 => simp at h3; simp [h3]
  | _ :: _ :: _, h2, _ => simp at h2; omega
theorem sh_2 {x : ByteArray} (h : 0 < x.size) (hb : x[0].toNat = 2) : shapeB x = decide (x.size = 9) := by
  obtain ⟨r, h1, h2⟩ := shape_cons h
  have e : x[0] = 2 := UInt8.toNat_inj.1 hb
  unfold shapeB
  rw [h1, e]
  simp
  omega
theorem sh_3 {x : ByteArray} (h : 0 < x.size) (hb : x[0].toNat = 3) : shapeB x = decide (x.size ≤ 65) := by
  obtain ⟨r, h1, h2⟩ := shape_cons h
  have e : x[0] = 3 := UInt8.toNat_inj.1 hb
  unfold shapeB
  rw [h1, e]
  simp
  omega
theorem sh_4 {x : ByteArray} (h : 0 < x.size) (h0 : x[0].toNat ≠ 0) (h1 : x[0].toNat ≠ 1) (h2 : x[0].toNat ≠ 2) (h3 : x[0].toNat ≠ 3) : shapeB x = false := by
  obtain ⟨r, h4, h5⟩ := shape_cons h
  have e : ∀ c : UInt8, x[0].toNat ≠ c.toNat → ¬ x[0] = c := fun c hc hb => hc (by rw [hb])
  unfold shapeB
  rw [h4]
  simp only [if_neg (e 0 h0), if_neg (e 1 h1), if_neg (e 2 h2), if_neg (e 3 h3)]

set_option maxRecDepth 100000 in
set_option maxHeartbeats 4000000 in
theorem reads7_walk (v : Value) (l : List ByteArray) (tail : ByteArray) (hl : l.length ≤ 9223372036854775807) (hsz : ∀ s ∈ l, s.size ≤ 9223372036854775807) (ht : tail.size ≤ 9223372036854775807) (m : Int) (W : World) (hm : W.cell? ⟨gMax, 0, none⟩ = some (.int .i64 m)) (hp : Pow10 W) (hv : Row W v 1 l.length (l.map Value.string)) :
    Calls Tryd.prog 9 #[v, .string tail] W fun e w' => e = .returned (.bool true) ∧ Below W.heap.size W w' := by
  obtain ⟨i0, hi, hz0, hz1, hz2⟩ := info_parts infoStr
  have HM := Lib.hid hm
  have HP := Lib.hid hp
  have HV := Lib.hid hv
  have HSZ := Lib.hid hsz
  obtain ⟨a, cap, rfl, -⟩ := hv
  have hn0 : (0 : Int) ≤ (l.length : Int) := by omega
  have hn1 : (l.length : Int) ≤ 9223372036854775807 := by omega
  clear hm hp hsz
  go_enter Tryd.func9, Tryd.ntmps9
  go_wp2_with fail
  (with_reducible refine (speaks7 m _ HM.out HP.out).mono ?_); rintro e w1 ⟨rfl, hb1⟩
  have HB1 := Lib.hid hb1
  clear hb1
  go_upto_block 0 with fail
  go_cut [5] from 6 to 41 (fun sv wx => ∃ (n : Nat) (av : Option Addr) (cv : Nat), sv = .slice av n cv ∧ n ≤ 9 ∧ n ≤ l.length ∧ Hid (wx.ownsRow W.heap.size 9 1 sv n ((shortL l n).map Value.string)) ∧ Hid (Below W.heap.size W wx))
  case first =>
    go_wp2_with fail
    go_loopw [5, 6] (fun sv i wr => ∃ (k : Nat) (av : Option Addr) (cv : Nat), sv = .slice av k cv ∧ i = .int .i64 (k : Int) ∧ k ≤ l.length ∧ k ≤ 9 ∧ Hid (wr.ownsRow W.heap.size 9 1 sv k ((shortL l k).map Value.string)) ∧ Hid (Below W.heap.size W wr)) (fun _ i _ => 9 - (intOf i).toNat)
    case atStart => exact ⟨0, none, 0, rfl, rfl, by omega, by omega, Lib.hid (World.ownsRow_nil _ _ _ _), HB1⟩
    case round =>
      obtain ⟨k, av, cv, rfl, rfl, hk, hk9, HO, HB⟩ := hrel
      have hd0 : (0 : Int) ≤ (k : Int) := by omega
      by_cases h1 : k < l.length
      · have d1 : (k : Int) < (l.length : Int) := by omega
        by_cases h2 : k < 9
        · have d2 : (k : Int) < 9 := by omega
          obtain ⟨b, off, cap', ea, g0⟩ := row_strings_at (HV.out.later HB.out) k h1
          simp only [Value.slice.injEq] at ea
          obtain ⟨rfl, -, rfl⟩ := ea
          have hx := HSZ.out _ (List.getElem_mem h1)
          have HT := Lib.hid (take_map_snoc (cutT 80) l k h1)
          generalize l[k] = x at *
          have hx0 : (0 : Int) ≤ (x.size : Int) := by omega
          have hx1 : (x.size : Int) ≤ 9223372036854775807 := by omega
          clear hx
          have HNW := Lib.hid (World.news_of_block (w := (wr.alloc (.cells #[.string (x.extract 0 (min (x.size : Int) 80).toNat)] 9)).drew) (B := wr.heap.size) (cs := #[.string (x.extract 0 (min (x.size : Int) 80).toNat)]) (t := 9) (fr := (0, 0)) (heap_alloc_new wr _))
          have HR2 : Hid ((wr.alloc (.cells #[.string (x.extract 0 (min (x.size : Int) 80).toNat)] 9)).drew.ownsRow W.heap.size 9 1 (.slice av k cv) k ((shortL l k).map Value.string)) := Lib.hid ((HO.out.alloc _).drew)
          have hmn0 : 0 ≤ min (x.size : Int) 80 := by omega
          have hmn1 : min (x.size : Int) 80 ≤ x.size := by omega
          have hb0 := HB.out.size
          have h63 : k + 1 ≤ maxLen := by unfold maxLen; omega
          have h64 : (k + 1) * 16 ≤ 140737488355328 := by omega
          go_wp2_with fail
          go_region_law (refine step_append_lies _ rfl (.tmp 28) (.tmp 40) 70 rfl W.heap.size 9 i0 (.string ⟨#[]⟩) 1 16 Tryd.underlying70 hi hz0 hz1 hz2 rfl (by decide) (.slice av k cv) k ((shortL l k).map Value.string) (by simp [Act.eval, Act.put]) HR2.out ⟨wr.heap.size, 0, none⟩ 1 1 [.string (x.extract 0 (min (x.size : Int) 80).toNat)] (by simp [Act.eval, Act.put]) rfl HNW.out (by intro u hu; simp at hu; subst hu; rfl) (by decide) h63 h64 (by simp; omega) (wr.heap.size + 1) (by simp) ?_; intro g' cap w' hown' hgr hat hlt; have HO2 := Lib.hid hown'; have HGR := Lib.hid hgr; clear hown' hgr hat hlt)
          all_goals go_wp2_with fail
          all_goals
            refine ⟨⟨k + 1, _, _, rfl, by go_num, by omega, by omega, Lib.hid ?_, Lib.hid ?_⟩, by simp [intOf]; omega⟩
            · have h := HO2.out
              have ht2 := HT.out
              unfold shortL
              rw [ht2, List.map_append]
              exact h
            · exact ((HB.out.alloc hb0 _).drew).grown HGR.out (by simp; omega) (fun j hj => (HO.out.lt j hj).1)
        · have d2 : ¬ (k : Int) < 9 := by omega
          go_wp2_with fail
          go_meet
          exact ⟨k, _, _, rfl, hk9, hk, HO, HB⟩
      · have d1 : ¬ (k : Int) < (l.length : Int) := by omega
        go_wp2_with fail
        go_meet
        exact ⟨k, _, _, rfl, hk9, hk, HO, HB⟩
  case rest =>
    obtain ⟨n, av, cv, rfl, hn9, hnl, HO, HB⟩ := hcut
    have HLN := Lib.hid (shortL_len l n hnl)
    have HPL := Lib.hid (packB_short l n hnl)
    have HR : Hid (Row wc (.slice av n cv) 1 (shortL l n).length ((shortL l n).map Value.string)) := Lib.hid (by rw [HLN.out]; exact Row.of_owns HO.out)
    obtain ⟨ss, hss⟩ : ∃ ss, shortL l n = ss := ⟨_, rfl⟩
    rw [hss] at HLN HPL HR
    have HPK := Lib.hid (fun W1 (hb : Below wc.heap.size wc W1) => pack_any _ ss W1 (by rw [HLN.out]; omega) (HR.out.later hb) (by have := HPL.out; omega))
    have ht0 : (0 : Int) ≤ (tail.size : Int) := by omega
    have ht1 : (tail.size : Int) ≤ 9223372036854775807 := by omega
    have hmn0 : 0 ≤ min (tail.size : Int) 20 := by omega
    have hmn1 : min (tail.size : Int) 20 ≤ tail.size := by omega
    have hpl : (packB ss).length ≤ 1000 := by have := HPL.out; omega
    have htl : (tail.extract 0 (min (tail.size : Int) 20).toNat).size ≤ 20 := cutT_size 20 tail
    obtain ⟨S, hS⟩ : ∃ S, (⟨(packB ss).toArray⟩ : ByteArray) ++ tail.extract 0 (min (tail.size : Int) 20).toNat = S := ⟨_, rfl⟩
    have hSz : S.size ≤ 1100 := by rw [← hS, ByteArray.size_append, size_mk]; omega
    have HS := Lib.hid hS
    clear hss hS HO HR HLN HPL
    go_upto_region 8 with fail
    go_cut [7] from 28 to 49 (fun v wx => v = .string S ∧ Hid (Below W.heap.size W wx))
    case first =>
      go_wp2_with fail
      go_region_with (go_at_call 38; (refine (HPK.out _ (by first | exact (Below.refl _ _).drew | exact Below.refl _ _)).mono ?_); rintro e w2 ⟨rfl, hb2⟩; have HB2 := Lib.hid hb2; clear hb2)
      all_goals go_wp2_with fail
      all_goals
        go_meet
        exact ⟨by rw [HS.out], Lib.hid (HB.out.trans ((((Below.refl _ wc).drew).trans HB2.out).mono HB.out.size))⟩
    case rest =>
      obtain ⟨rfl, HB2⟩ := hcut
      clear HPK HS htl hpl hmn0 hmn1 ht0 ht1 HB
      have HSP := Lib.hid (fun W1 => refSplit_any S W1 (by omega))
      have HGT := Lib.hid (fun W1 => get_any S (by omega) W1)
      obtain ⟨qs, hqs⟩ : ∃ qs, (splitS S).1 = qs := ⟨_, rfl⟩
      obtain ⟨qw, hqw⟩ : ∃ qw, (splitS S).2 = qw := ⟨_, rfl⟩
      have HQ := Lib.hid hqs; have HQW := Lib.hid hqw
      unfold RefSplitPost at HSP
      unfold GetPost at HGT
      rw [hqs, hqw] at HSP HGT
      have hql : qs.length ≤ 1100 := by have := (split_len _ S (Nat.le_refl _)).1; rw [hqs] at this; omega
      have HQM := Lib.hid (by have := (split_len _ S (Nat.le_refl _)).2; rw [hqs] at this; exact this)
      clear hqs hqw
      cases qw with
      | false =>
        simp only [if_true] at HGT
        go_wp2_with (first | (go_at_call 36; (with_reducible refine (HGT.out _).mono ?_); rintro e w3 ⟨rfl, hb3⟩; have HB3 := Lib.hid hb3; clear hb3) | (go_at_call 39; (with_reducible refine (HSP.out _).mono ?_); rintro e w4 ⟨v4, rfl, ho4, hb4⟩; have HB4 := Lib.hid hb4; clear hb4 ho4))
        go_ret
        exact ⟨rfl, HB2.out.trans ((HB3.out.trans (HB4.out.mono HB3.out.size)).mono HB2.out.size)⟩
      | true =>
        have HGC : Hid (∀ W1, Calls Tryd.prog 36 #[.string S] W1 fun e w' => ∃ rv re, e = .returned (.tuple #[rv, .int .i64 re]) ∧ Hid ((qs.all shapeB = false ∧ rv = .slice none 0 0 ∧ re = 4) ∨ (qs.all shapeB = true ∧ re = 0 ∧ ∃ l, w'.ownsRow W1.heap.size TV 3 rv l.length (vCells l) ∧ (∀ x ∈ l, Good x) ∧ l.map encS = qs)) ∧ Below W1.heap.size W1 w') := Lib.hid (fun W1 => by
          refine (HGT.out W1).mono ?_
          rintro e w' ⟨h1, h2⟩
          rw [if_neg (by simp)] at h1
          by_cases ha : qs.all shapeB = false
          · rw [if_pos ha] at h1
            exact ⟨_, _, h1, Lib.hid (.inl ⟨ha, rfl, rfl⟩), h2⟩
          · rw [if_neg ha] at h1
            obtain ⟨rv, l, h3, h4⟩ := h1
            exact ⟨rv, 0, h3, Lib.hid (.inr ⟨by simpa using ha, rfl, l, h4⟩), h2⟩)
        clear HGT
        go_upto_block 2 with (first | (go_at_call 36; (with_reducible refine (HGC.out _).mono ?_); rintro e w3 ⟨rv, re, rfl, HR3, hb3⟩; have HB3 := Lib.hid hb3; clear hb3) | (go_at_call 39; (with_reducible refine (HSP.out _).mono ?_); rintro e w4 ⟨v4, rfl, ho4, hb4⟩; have HB4 := Lib.hid hb4; have HO4 := Lib.hid (Row.of_owns ho4); obtain ⟨a4, c4, rfl⟩ := owns_shape ho4; clear hb4 ho4))
        clear HGC HSP
        have hq0 : (0 : Int) ≤ (qs.length : Int) := by omega
        have hq1 : (qs.length : Int) ≤ 1100 := by omega
        go_cut [12] from 13 to 128 (fun v wx => v = .bool (qs.all shapeB) ∧ Hid (Below w4.heap.size w4 wx))
        case first =>
          go_wp2_with fail
          go_loopw [12, 13] (fun v i wr => ∃ k : Nat, i = .int .i64 (k : Int) ∧ k ≤ qs.length ∧ v = .bool ((qs.take k).all shapeB) ∧ Hid (Below w4.heap.size w4 wr)) (fun _ i _ => qs.length - (intOf i).toNat)
          case atStart => exact ⟨0, rfl, by omega, rfl, Lib.hid (Below.refl _ _)⟩
          case round =>
            obtain ⟨k, rfl, hk, rfl, HBk⟩ := hrel
            have hd0 : (0 : Int) ≤ (k : Int) := by omega
            by_cases h1 : k < qs.length
            · have d1 : (k : Int) < (qs.length : Int) := by omega
              obtain ⟨b, off, cap', ea, g0⟩ := row_strings_at (HO4.out.later HBk.out) k h1
              simp only [Value.slice.injEq] at ea
              obtain ⟨rfl, -, rfl⟩ := ea
              have hx := HQM.out _ (List.getElem_mem h1)
              have HT : Hid ((qs.take (k + 1)).all shapeB = ((qs.take k).all shapeB && shapeB qs[k])) := Lib.hid (by rw [List.take_succ_eq_append_getElem h1, List.all_append]; simp)
              generalize qs[k] = x at *
              have hx0 : (0 : Int) ≤ (x.size : Int) := by omega
              have hx1 : (x.size : Int) ≤ 1100 := by omega
              clear hx
              generalize (qs.take k).all shapeB = good at *
              go_upto_if 81 with fail
              go_cut [15] from 82 to 124 (fun v wx => v = .bool (shapeB x) ∧ wx = wr)
              case first =>
                clear HT HBk HO4 HB4 HB3 HB2 HR3 HQ HQM HQW g0 HSZ HV HM HP HB1
                by_cases hz : 0 < x.size
                · skip
                  by_cases hb : x[0].toNat = 0
                  · have e0 : ((x[0].toNat : Int) == 0) = true := by simp; omega
                    have e1 : ((x[0].toNat : Int) == 1) = false := by simp; omega
                    have e2 : ((x[0].toNat : Int) == 2) = false := by simp; omega
                    have e3 : ((x[0].toNat : Int) == 3) = false := by simp; omega
                    by_cases hs : x.size = 1
                    · have HX : Hid (shapeB x = true) := Lib.hid (by rw [sh_0 hz hb]; simp [hs])
                      have s1 : ((x.size : Int) == 1) = true := by simp; omega
                      clear hs hb
                      go_wp2_with fail
                      go_meet
                      exact ⟨by rw [HX.out], rfl⟩
                    · have HX : Hid (shapeB x = false) := Lib.hid (by rw [sh_0 hz hb]; simp [hs])
                      have s1 : ((x.size : Int) == 1) = false := by simp; omega
                      clear hs hb
                      go_wp2_with fail
                      go_meet
                      exact ⟨by rw [HX.out], rfl⟩
                  · by_cases hb1 : x[0].toNat = 1
                    · have hb := hb1
                      clear hb1
                      have e0 : ((x[0].toNat : Int) == 0) = false := by simp; omega
                      have e1 : ((x[0].toNat : Int) == 1) = true := by simp; omega
                      have e2 : ((x[0].toNat : Int) == 2) = false := by simp; omega
                      have e3 : ((x[0].toNat : Int) == 3) = false := by simp; omega
                      by_cases hs : x.size = 2
                      · have hz1 : 1 < x.size := by omega
                        have hz2 : (1 : Int) < (x.size : Int) := by omega
                        have s2 : ((x.size : Int) == 2) = true := by simp; omega
                        by_cases hc : x[1].toNat < 2
                        · have HX : Hid (shapeB x = true) := Lib.hid (by rw [sh_1 hz1 hb hs]; simp [hc])
                          have d : (x[1].toNat : Int) < 2 := by omega
                          clear hs hb hc
                          go_wp2_with fail
                          go_meet
                          exact ⟨by rw [HX.out], rfl⟩
                        · have HX : Hid (shapeB x = false) := Lib.hid (by rw [sh_1 hz1 hb hs]; simp [hc])
                          have d : decide ((x[1].toNat : Int) < 2) = false := by simp; omega
                          clear hs hb hc
                          go_wp2_with fail
                          go_meet
                          exact ⟨by rw [HX.out], rfl⟩
                      · have HX : Hid (shapeB x = false) := Lib.hid (sh_1n hz hb hs)
                        have s2 : ((x.size : Int) == 2) = false := by simp; omega
                        clear hs hb
                        go_wp2_with fail
                        go_meet
                        exact ⟨by rw [HX.out], rfl⟩
                    · by_cases hb2 : x[0].toNat = 2
                      · have hb := hb2
                        clear hb2
                        have e0 : ((x[0].toNat : Int) == 0) = false := by simp; omega
                        have e1 : ((x[0].toNat : Int) == 1) = false := by simp; omega
                        have e2 : ((x[0].toNat : Int) == 2) = true := by simp; omega
                        have e3 : ((x[0].toNat : Int) == 3) = false := by simp; omega
                        by_cases hs : x.size = 9
                        · have HX : Hid (shapeB x = true) := Lib.hid (by rw [sh_2 hz hb]; simp [hs])
                          have s9 : ((x.size : Int) == 9) = true := by simp; omega
                          clear hs hb
                          go_wp2_with fail
                          go_meet
                          exact ⟨by rw [HX.out], rfl⟩
                        · have HX : Hid (shapeB x = false) := Lib.hid (by rw [sh_2 hz hb]; simp [hs])
                          have s9 : ((x.size : Int) == 9) = false := by simp; omega
                          clear hs hb
                          go_wp2_with fail
                          go_meet
                          exact ⟨by rw [HX.out], rfl⟩
                      · by_cases hb3 : x[0].toNat = 3
                        · have hb := hb3
                          clear hb3
                          have e0 : ((x[0].toNat : Int) == 0) = false := by simp; omega
                          have e1 : ((x[0].toNat : Int) == 1) = false := by simp; omega
                          have e2 : ((x[0].toNat : Int) == 2) = false := by simp; omega
                          have e3 : ((x[0].toNat : Int) == 3) = true := by simp; omega
                          by_cases hs : x.size ≤ 65
                          · have HX : Hid (shapeB x = true) := Lib.hid (by rw [sh_3 hz hb]; simp [hs])
                            have d : (x.size : Int) ≤ 65 := by omega
                            clear hs hb
                            go_wp2_with fail
                            go_meet
                            exact ⟨by rw [HX.out], rfl⟩
                          · have HX : Hid (shapeB x = false) := Lib.hid (by rw [sh_3 hz hb]; simp [hs])
                            have d : decide ((x.size : Int) ≤ 65) = false := by simp; omega
                            clear hs hb
                            go_wp2_with fail
                            go_meet
                            exact ⟨by rw [HX.out], rfl⟩
                        · have e0 : ((x[0].toNat : Int) == 0) = false := by simp; omega
                          have e1 : ((x[0].toNat : Int) == 1) = false := by simp; omega
                          have e2 : ((x[0].toNat : Int) == 2) = false := by simp; omega
                          have e3 : ((x[0].toNat : Int) == 3) = false := by simp; omega
                          have HX : Hid (shapeB x = false) := Lib.hid (sh_4 hz hb hb1 hb2 hb3)
                          clear hb hb1 hb2 hb3
                          go_wp2_with fail
                          go_meet
                          exact ⟨by rw [HX.out], rfl⟩
                · have HX : Hid (shapeB x = false) := Lib.hid (shape_nil (by omega))
                  go_wp2_with fail
                  go_meet
                  exact ⟨by rw [HX.out], rfl⟩
              case rest =>
                obtain ⟨rfl, rfl⟩ := hcut
                go_wp2_with fail
                all_goals
                  refine ⟨⟨k + 1, by go_num, by omega, ?_, HBk⟩, by simp [intOf]; omega⟩
                  rw [HT.out]
                  simp [*]
            · have d1 : ¬ (k : Int) < (qs.length : Int) := by omega
              have hk2 : k = qs.length := by omega
              subst hk2
              go_wp2_with fail
              go_meet
              exact ⟨by first | rfl | rw [List.take_length], HBk⟩
        case rest =>
          obtain ⟨rfl, HB5⟩ := hcut
          have HBE := Lib.hid (HB2.out.trans ((HB3.out.trans ((HB4.out.trans (HB5.out.mono HB4.out.size)).mono HB3.out.size)).mono HB2.out.size))
          rcases HR3.out with ⟨ha, rfl, rfl⟩ | ⟨ha, rfl, l2, ho, hg, hm⟩
          · rw [ha]
            go_wp2_with fail
            go_ret
            exact ⟨rfl, HBE.out⟩
          · rw [ha]
            obtain ⟨a5, c5, rfl⟩ := owns_shape ho
            have hl2 : l2.length = qs.length := by rw [← hm, List.length_map]
            have HK := Lib.hid (fun W1 (hb : Below w3.heap.size w3 W1) => key_any _ l2 hg (by omega) W1 ((Row.of_owns ho).later hb))
            have hkey : (⟨(keyB l2).toArray⟩ : ByteArray) = S := bytes_data (by
              have h := packB_split _ S (Nat.le_refl _) HQW.out
              rw [HQ.out, ← hm] at h
              simpa [keyB] using h)
            rw [hkey] at HK
            have e1 : ((l2.length : Int) == (qs.length : Int)) = true := by simp [hl2]
            have e2 : (S.toList == S.toList) = true := by simp
            have HL2 := Lib.hid hl2
            clear hl2 hkey ha ho hm HR3
            go_wp2_with (go_at_call 34; (with_reducible refine (HK.out _ (HB4.out.trans (HB5.out.mono HB4.out.size))).mono ?_); rintro e w6 ⟨rfl, hb6⟩; have HB6 := Lib.hid hb6; clear hb6)
            go_ret
            exact ⟨rfl, HBE.out.trans (HB6.out.mono HBE.out.size)⟩
end Go.Proofs.YtpkkhbmlclicfaaDoor.val
