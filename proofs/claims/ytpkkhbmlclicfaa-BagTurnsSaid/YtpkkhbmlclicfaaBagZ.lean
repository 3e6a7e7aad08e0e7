/- The law BagTurns, walked. -/
import Derived.Test.YtpkkhbmlclicfaaBagY
import Derived.Test.YtpkkhbmlclicfaaMD
namespace Go.Proofs.Ytpkkhbmlclicfaa.val
set_option linter.unusedVariables false
open Go.RowKit Go.Sort
attribute [local go_sem] ag.upon_value ag.upon_skip ag.upon_enter
attribute [local go_sem] Oper.semAt_some
/-- an append of rows, whole -/
def apZ (args : Array Value) : Sem Value := Builtin.append_ #[24, 24] 24 args
theorem apZ_eq (args : Array Value) : Builtin.append_ #[24, 24] 24 args = apZ args := rfl
attribute [local go_sem ↓ high] apZ_eq
theorem apZ_row {w : World} {B : Nat} {a : Option Addr} {c : Nat} {us : List Value} {u : Value} (n : Nat) (hn : us.length = n) (hn1 : n + 1 ≤ 1000001) (ho : w.ownsRow B 49 1 (.slice a n c) n us) (hB : B ≤ w.heap.size) (hu : u.oneCell' = true) :
    ∃ (a5 : Option Addr) (c5 : Nat) (w5 : World), (apZ #[.slice a n c, .slice (some ⟨w.heap.size, 0, none⟩) 1 1]).run Try.prog (w.alloc (.cells #[u] 49)) = .ok (.slice a5 (n + 1) c5) w5 ∧ w5.ownsRow B 49 1 (.slice a5 (n + 1) c5) (n + 1) (us ++ [u]) ∧ Below B w w5 := by
  subst hn
  obtain ⟨v', w5, h1, h2, h3⟩ := row_app (us := us) hn1 ho hB hu
  obtain ⟨a5, c5, rfl⟩ := owns_shape h2
  exact ⟨a5, c5, w5, h1, h2, (((Below.refl _ w).alloc hB _).grown h3 (by rw [World.size_alloc]; omega) (fun k hk => (ho.lt k hk).1))⟩
theorem Ins.later {W W' : World} {vs : List Value} {xss : List (List Pl)} (h : Ins W vs xss) (hb : Below W.heap.size W W') : Ins W' vs xss := ⟨h.1, fun j u x h1 h2 => ⟨(h.2 j u x h1 h2).1.later hb, (h.2 j u x h1 h2).2⟩⟩
theorem RwT.reverse {T : TypeId} {B : Nat} {W : World} {vs : List Value} {ls : List (List V)} (h : RwT T B W vs ls) : RwT T B W vs.reverse ls.reverse := by
  refine ⟨by simp [h.1], fun j u l h1 h2 => ?_⟩
  have hj : j < vs.length := by have := (List.getElem?_eq_some_iff.1 h1).1; simpa using this
  rw [List.getElem?_reverse hj] at h1
  rw [List.getElem?_reverse (by rw [← h.1]; exact hj), ← h.1] at h2
  exact h.2 _ u l h1 h2
theorem told_row {B n : Nat} {sa sb : Value} {ra rb : List Value} {ls : List (List V)} {W w : World} (h : Told B n sa sb ra rb ls W) (hn : n ≤ 12) (hb : Below W.heap.size W w) :
    Calls Try.prog 8 #[sa] w fun e w' => ∃ b, e = .returned b ∧ IsB (cnt (once ls)) n b w' ∧ Below w.heap.size w w' := by
  have h' := h.later hb
  obtain ⟨e1, e2, e3, e4, e5, e6, e7, e8⟩ := h'
  have hr : Row w sa 1 ra.length ra := by rw [e3]; exact Row.of_owns e5
  have := of_isB (by omega) e2 hr e7
  rw [e1] at this
  exact this
theorem drop_rev {α : Type} (l : List α) (m : Nat) (hm : m < l.length) : (l.drop m).reverse = (l.drop (m + 1)).reverse ++ [l[m]] := by
  rw [List.drop_eq_getElem_cons hm, List.reverse_cons]
set_option maxRecDepth 100000 in
set_option maxHeartbeats 4000000 in
theorem turns_walk (v1 v2 v3 : Value) (vs1 vs2 vs3 : List Value) (x1 x2 x3 : List (List Pl)) (hn1 : vs1.length ≤ 9223372036854775807) (hn2 : vs2.length ≤ 9223372036854775807) (hn3 : vs3.length ≤ 9223372036854775807) (W : World)
    (hv1 : Row W v1 1 vs1.length vs1) (hv2 : Row W v2 1 vs2.length vs2) (hv3 : Row W v3 1 vs3.length vs3) (hi1 : Ins W vs1 x1) (hi2 : Ins W vs2 x2) (hi3 : Ins W vs3 x3) :
    Calls Try.prog 5 #[v1, v2, v3] W fun e w' => e = .returned (.bool true) ∧ Below W.heap.size W w' := by
  have HR1 := Lib.hid (fun (w : World) (h : Below W.heap.size W w) => rows8_any v1 vs1 x1 hn1 w (hv1.later h) (hi1.later h))
  have HR2 := Lib.hid (fun (w : World) (h : Below W.heap.size W w) => rows8_any v2 vs2 x2 hn2 w (hv2.later h) (hi2.later h))
  have HR3 := Lib.hid (fun (w : World) (h : Below W.heap.size W w) => rows8_any v3 vs3 x3 hn3 w (hv3.later h) (hi3.later h))
  clear hv1 hv2 hv3 hi1 hi2 hi3 hn1 hn2 hn3
  go_enter Try.func5, Try.ntmps5
  go_wp2_with fail
  (with_reducible refine (speaks8 _).mono ?_); rintro e w1 ⟨rfl, hb1⟩
  have HB1 := Lib.hid hb1
  clear hb1
  go_wp2_with fail
  (with_reducible refine (HR1.out _ HB1.out).mono ?_); rintro e w2 ⟨s1, t1, rfl, ra1, rb1, l1, HT1, hl1, hb2⟩
  have HB2 := Lib.hid (HB1.out.trans (hb2.mono HB1.out.size))
  clear hb2
  go_wp2_with fail
  (with_reducible refine (HR2.out _ HB2.out).mono ?_); rintro e w3 ⟨s2, t2, rfl, ra2, rb2, l2, HT2, hl2, hb3⟩
  have HT12 := Lib.hid (HT1.out.later hb3)
  have HB3 := Lib.hid (HB2.out.trans (hb3.mono HB2.out.size))
  clear hb3 HT1
  go_wp2_with fail
  (with_reducible refine (HR3.out _ HB3.out).mono ?_); rintro e w4 ⟨s3, t3, rfl, ra3, rb3, l3, HT3, hl3, hb4⟩
  have HT13 := Lib.hid (HT12.out.later hb4)
  have HT23 := Lib.hid (HT2.out.later hb4)
  have HB4 := Lib.hid (HB3.out.trans (hb4.mono HB3.out.size))
  clear hb4 HT12 HT2 HR1 HR2 HR3
  obtain ⟨a1, c1, rfl⟩ := owns_shape HT13.out.2.2.2.2.1
  obtain ⟨a2, c2, rfl⟩ := owns_shape HT23.out.2.2.2.2.1
  obtain ⟨a3, c3, rfl⟩ := owns_shape HT3.out.2.2.2.2.1
  generalize hn1 : l1.length = n1 at *
  generalize hn2 : l2.length = n2 at *
  generalize hn3 : l3.length = n3 at *
  have HN1 := Lib.hid hn1; have HN2 := Lib.hid hn2; have HN3 := Lib.hid hn3
  clear hn1 hn2 hn3
  have i10 : (0 : Int) ≤ (n1 : Int) := by omega
  have i11 : (n1 : Int) ≤ 12 := by omega
  have i20 : (0 : Int) ≤ (n2 : Int) := by omega
  have i21 : (n2 : Int) ≤ 12 := by omega
  have i30 : (0 : Int) ≤ (n3 : Int) := by omega
  have i31 : (n3 : Int) ≤ 12 := by omega
  go_wp2_with fail
  go_loopw [13, 14] (fun bv i wr => ∃ (j k : Nat) (ab : Option Addr) (cb : Nat) (us : List Value), i = .int .i64 ((j : Int) - 1) ∧ bv = .slice ab k cb ∧ k + j = n1 ∧ Hid (us.length = k ∧ us = (ra1.drop j).reverse ∧ wr.ownsRow w4.heap.size 49 1 (.slice ab k cb) k us) ∧ Hid (Below w4.heap.size w4 wr)) (fun _ i _ => (intOf i + 1).toNat)
  case atStart => exact ⟨n1, 0, none, 0, [], rfl, rfl, by omega, Lib.hid ⟨rfl, by rw [List.drop_of_length_le (by rw [HT13.out.2.2.1]; exact Nat.le_refl _)]; rfl, World.ownsRow_nil _ _ _ _⟩, Lib.hid (Below.refl _ _)⟩
  case round =>
    obtain ⟨j, k, ab, cb, us, rfl, rfl, hjk, HU, HB⟩ := hrel
    rcases j with _ | m
    · have hk : k = n1 := by omega
      subst hk
      have e0 : ((0 : Nat) : Int) - 1 = -1 := by omega
      rw [e0]
      go_upto_region 11 with fail
      clear e0 hjk
      have HO1 := Lib.hid (fun (w : World) (h : Below wr.heap.size wr w) => told_row HT13.out hl1 (HB.out.trans (h.mono HB.out.size)))
      have HO2 := Lib.hid (fun (w : World) (h : Below wr.heap.size wr w) => told_row HT23.out hl2 (HB.out.trans (h.mono HB.out.size)))
      have HO3 := Lib.hid (fun (w : World) (h : Below wr.heap.size wr w) => told_row HT3.out hl3 (HB.out.trans (h.mono HB.out.size)))
      have HO4 : Hid (∀ (w : World), Below wr.heap.size wr w → Calls Try.prog 8 #[.slice ab k cb] w fun e w' => ∃ b, e = .returned b ∧ IsB (cnt (once l1.reverse)) k b w' ∧ Below w.heap.size w w') := Lib.hid (fun w h => by
        obtain ⟨u1, u2, u3⟩ := HU.out
        obtain ⟨e1, e2, e3, e4, e5, e6, e7, e8⟩ := HT13.out
        have hb' := HB.out.trans (h.mono HB.out.size)
        have hr : Row w (.slice ab k cb) 1 us.length us := by rw [u1]; exact (Row.of_owns u3).later h
        have hw : RwT TV w1.heap.size w us l1.reverse := by rw [u2, List.drop_zero]; exact (e7.later hb').reverse
        have := of_isB (by omega) (fun l hl => e2 l (List.mem_reverse.1 hl)) hr hw
        rw [List.length_reverse, e1] at this
        exact this)
      have HB5 := Lib.hid (HB4.out.trans (HB.out.mono HB4.out.size))
      clear HT13 HT23 HT3 HU HB HB4 HN1 HN2 HN3 HB1 HB2 HB3
      go_wp2_with fail
      (with_reducible refine (HO1.out _ (Below.refl _ _)).mono ?_); rintro e x1 ⟨b1, rfl, hi1, hb1⟩
      have HX1 := Lib.hid hb1
      have HI1 := Lib.hid hi1
      clear hb1 hi1
      go_wp2_with fail
      (with_reducible refine (HO2.out _ HX1.out).mono ?_); rintro e x2 ⟨b2, rfl, hi2, hb2⟩
      have HX2 := Lib.hid (HX1.out.trans (hb2.mono HX1.out.size))
      have HI12 := Lib.hid (HI1.out.later hb2)
      have HI2 := Lib.hid hi2
      clear hb2 hi2 HI1
      go_wp2_with fail
      (with_reducible refine (HO3.out _ HX2.out).mono ?_); rintro e x3 ⟨b3, rfl, hi3, hb3⟩
      have HX3 := Lib.hid (HX2.out.trans (hb3.mono HX2.out.size))
      have HI13 := Lib.hid (HI12.out.later hb3)
      have HI23 := Lib.hid (HI2.out.later hb3)
      have HI33 := Lib.hid hi3
      clear hb3 hi3 HI12 HI2 HX1 HX2 HO1 HO2 HO3
      obtain ⟨d1, m1, f1, rfl⟩ := HI13.out.form
      obtain ⟨d2, m2, f2, rfl⟩ := HI23.out.form
      obtain ⟨d3, m3, f3, rfl⟩ := HI33.out.form
      go_upto_region 12 with fail
      obtain ⟨X, hX⟩ : ∃ X, ((x3.alloc (.cells #[.slice d1 m1 f1] TB)).alloc (.cells #[.slice d2 m2 f2] TB)).alloc (.cells #[.slice d3 m3 f3] TB) = X := ⟨_, rfl⟩
      have hfa : Flds X x3.heap.size TB [.slice d1 m1 f1] := by rw [← hX]; exact ((Flds.new x3 TB [.slice d1 m1 f1]).alloc _).alloc _
      have hfb : Flds X (x3.heap.size + 1) TB [.slice d2 m2 f2] := by rw [← hX]; have := (Flds.new (x3.alloc (.cells #[.slice d1 m1 f1] TB)) TB [.slice d2 m2 f2]).alloc (.cells #[.slice d3 m3 f3] TB); rw [World.size_alloc] at this; exact this
      have hfc : Flds X (x3.heap.size + 1 + 1) TB [.slice d3 m3 f3] := by rw [← hX]; have := Flds.new ((x3.alloc (.cells #[.slice d1 m1 f1] TB)).alloc (.cells #[.slice d2 m2 f2] TB)) TB [.slice d3 m3 f3]; rw [World.size_alloc, World.size_alloc] at this; exact this
      have hbX : Below x3.heap.size x3 X := by rw [← hX]; exact (((Below.refl _ _).alloc (Nat.le_refl _) _).alloc (by simp) _).alloc (by simp; omega) _
      rw [hX]
      have HX4 := Lib.hid (HX3.out.trans (hbX.mono HX3.out.size))
      have HI1 := Lib.hid (HI13.out.later hbX)
      have HI2 := Lib.hid (HI23.out.later hbX)
      have HI3 := Lib.hid (HI33.out.later hbX)
      clear HI13 HI23 HI33 HX3 hbX hX
      generalize x3.heap.size + 1 + 1 = g3 at *
      generalize x3.heap.size + 1 = g2 at *
      generalize x3.heap.size = g1 at *
      have HF1 : Hid (∀ W1, Below X.heap.size X W1 → W1.cell? ⟨g1, 0, none⟩ = some (.slice d1 m1 f1)) := Lib.hid (fun W1 h => (hfa.later h).cell 0)
      have HF2 : Hid (∀ W1, Below X.heap.size X W1 → W1.cell? ⟨g2, 0, none⟩ = some (.slice d2 m2 f2)) := Lib.hid (fun W1 h => (hfb.later h).cell 0)
      have HF3 : Hid (∀ W1, Below X.heap.size X W1 → W1.cell? ⟨g3, 0, none⟩ = some (.slice d3 m3 f3)) := Lib.hid (fun W1 h => (hfc.later h).cell 0)
      clear hfa hfb hfc
      apply ag.region_calm (ag.Spec.val _ :: ag.Spec.val _ :: ag.Spec.sat (IsB (cnt (once l1.reverse)) k) ag.grew :: ag.Spec.sat (fun v _ => v = .bool true) ag.grew :: ag.Spec.val (.bool true) :: ag.Spec.val _ :: ag.Spec.val _ :: ag.Spec.sat (ManyB 2 (fun r => cnt (once l1) r + cnt (once l2) r) (k + n2)) ag.grew :: ag.Spec.sat (IsB (fun r => cnt (once l1) r + cnt (once l2) r) (k + n2)) ag.grew :: ag.Spec.val _ :: ag.Spec.sat (ManyB 2 (fun r => cnt (once l1) r + cnt (once l2) r + cnt (once l3) r) (k + n2 + n3)) ag.grew :: ag.Spec.sat (IsB (fun r => cnt (once l1) r + cnt (once l2) r + cnt (once l3) r) (k + n2 + n3)) ag.grew :: ag.Spec.val _ :: ag.Spec.val _ :: ag.Spec.val _ :: ag.Spec.sat (ManyB 2 (fun r => cnt (once l2) r + cnt (once l1) r) (n2 + k)) ag.grew :: ag.Spec.sat (IsB (fun r => cnt (once l2) r + cnt (once l1) r) (n2 + k)) ag.grew :: ag.Spec.sat (ManyB 2 (fun r => cnt (once l3) r + (cnt (once l2) r + cnt (once l1) r)) (n3 + (n2 + k))) ag.grew :: ag.Spec.sat (IsB (fun r => cnt (once l3) r + (cnt (once l2) r + cnt (once l1) r)) (n3 + (n2 + k))) ag.grew :: ag.Spec.sat (fun v _ => v = .bool true) ag.grew :: ag.Spec.val (.bool true) :: ag.Spec.val (.bool true) :: ag.Spec.val _ :: ag.Spec.val _ :: ag.Spec.sat (ManyB 2 (fun r => cnt (once l1) r + 0) (k + 0)) ag.grew :: ag.Spec.sat (IsB (fun r => cnt (once l1) r + 0) (k + 0)) ag.grew :: ag.Spec.val _ :: ag.Spec.sat (fun v _ => v = .bool true) ag.grew :: ag.Spec.val (.bool true) :: ag.Spec.val (.bool true) :: ag.Spec.val _ :: ag.Spec.val _ :: ag.Spec.val _ :: ag.Spec.sat (ManyB 3 (fun r => cnt (once l1) r + cnt (once l2) r + cnt (once l3) r) (k + n2 + n3)) ag.grew :: ag.Spec.sat (IsB (fun r => cnt (once l1) r + cnt (once l2) r + cnt (once l3) r) (k + n2 + n3)) ag.grew :: ag.Spec.sat (fun v _ => v = .int .i64 ((k : Int) + (n2 : Int) + (n3 : Int))) ag.grew :: ag.Spec.val _ :: ag.Spec.val _ :: ag.Spec.val _ :: ag.Spec.val _ :: ag.Spec.val _ :: ag.Spec.val _ :: ag.Spec.val _ :: ag.Spec.val _ :: ag.Spec.val (.bool true) :: ag.Spec.val (.bool true) :: ag.Spec.val (.bool true) :: [])
      case hm => kernel_rfl
      case hB => kernel_rfl
      case hlen => rfl
      case hc => exact ⟨⟨lasts_isB _ _, rfl⟩, ⟨ag.lasts_eq _, rfl⟩, ⟨lasts_manyB _ _ _, rfl⟩, ⟨lasts_isB _ _, rfl⟩, ⟨lasts_manyB _ _ _, rfl⟩, ⟨lasts_isB _ _, rfl⟩, ⟨lasts_manyB _ _ _, rfl⟩, ⟨lasts_isB _ _, rfl⟩, ⟨lasts_manyB _ _ _, rfl⟩, ⟨lasts_isB _ _, rfl⟩, ⟨ag.lasts_eq _, rfl⟩, ⟨lasts_manyB _ _ _, rfl⟩, ⟨lasts_isB _ _, rfl⟩, ⟨ag.lasts_eq _, rfl⟩, ⟨lasts_manyB _ _ _, rfl⟩, ⟨lasts_isB _ _, rfl⟩, ⟨ag.lasts_eq _, rfl⟩, trivial⟩
      apply ag.walk_val
      · rfl
      · intro W1 hS hE
        have c1 := HF1.out W1 hS
        clear hS hE
        unfold ag.does
        go_simp
        first | done | exact ⟨rfl, rfl⟩ | rfl | (exact ⟨by go_num, rfl⟩) | (simp; done) | trace_state
      simp only [Act.put, List.setIfInBounds_toArray, List.set_cons_zero, List.set_cons_succ]
      apply ag.walk_val
      · rfl
      · intro W1 hS hE
        clear hS hE
        unfold ag.does
        go_simp
        first | done | exact ⟨rfl, rfl⟩ | rfl | (exact ⟨by go_num, rfl⟩) | (simp; done) | trace_state
      simp only [Act.put, List.setIfInBounds_toArray, List.set_cons_zero, List.set_cons_succ]
      refine ag.walk_such (by rfl) (fun W1 hS hE => ?_) (fun y2 => ?_)
      · clear hE
        have ho := HO4.out W1 (HX4.out.trans (hS.mono HX4.out.size))
        unfold ag.does
        go_simp
        first | done | (exact ho)
      simp only [Act.put, List.setIfInBounds_toArray, List.set_cons_zero, List.set_cons_succ]
      refine ag.walk_such (by rfl) (fun W1 hS hE => ?_) (fun y3 => ?_)
      · have h2 : IsB (cnt (once l1.reverse)) k y2 W1 := hE.of 2 (by kernel_rfl)
        have k1 := HI1.out.later hS
        clear hE
        unfold ag.does
        go_simp
        first | done | (exact same_isB (by omega) (by omega) k1 h2 (fun r => by exact once_cnt_perm (List.reverse_perm l1).symm r))
      simp only [Act.put, List.setIfInBounds_toArray, List.set_cons_zero, List.set_cons_succ]
      apply ag.walk_val
      · rfl
      · intro W1 hS hE
        have e3 : y3 = .bool true := hE.of 3 (by kernel_rfl)
        subst e3
        clear hS hE
        unfold ag.does
        go_simp
        first | done | exact ⟨rfl, rfl⟩ | rfl | (exact ⟨by go_num, rfl⟩) | (simp; done) | trace_state
      simp only [Act.put, List.setIfInBounds_toArray, List.set_cons_zero, List.set_cons_succ]
      apply ag.walk_val
      · rfl
      · intro W1 hS hE
        have c1 := HF1.out W1 hS
        clear hS hE
        unfold ag.does
        go_simp
        first | done | exact ⟨rfl, rfl⟩ | rfl | (exact ⟨by go_num, rfl⟩) | (simp; done) | trace_state
      simp only [Act.put, List.setIfInBounds_toArray, List.set_cons_zero, List.set_cons_succ]
      apply ag.walk_val
      · rfl
      · intro W1 hS hE
        have c1 := HF2.out W1 hS
        clear hS hE
        unfold ag.does
        go_simp
        first | done | exact ⟨rfl, rfl⟩ | rfl | (exact ⟨by go_num, rfl⟩) | (simp; done) | trace_state
      simp only [Act.put, List.setIfInBounds_toArray, List.set_cons_zero, List.set_cons_succ]
      refine ag.walk_such (by rfl) (fun W1 hS hE => ?_) (fun y7 => ?_)
      · have k1 := HI1.out.later hS
        have k2 := HI2.out.later hS
        clear hE
        unfold ag.does
        go_simp
        first | done | (exact ⟨manyB2 _ k1 k2, below_alloc1 _ _⟩)
      simp only [Act.put, List.setIfInBounds_toArray, List.set_cons_zero, List.set_cons_succ]
      refine ag.walk_such (by rfl) (fun W1 hS hE => ?_) (fun y8 => ?_)
      · have h7 : ManyB 2 (fun r => cnt (once l1) r + cnt (once l2) r) (k + n2) y7 W1 := hE.of 7 (by kernel_rfl)
        clear hE
        unfold ag.does
        go_simp
        first | done | (exact plus_isB (by decide) (by omega) h7)
      simp only [Act.put, List.setIfInBounds_toArray, List.set_cons_zero, List.set_cons_succ]
      apply ag.walk_val
      · rfl
      · intro W1 hS hE
        have c1 := HF3.out W1 hS
        clear hS hE
        unfold ag.does
        go_simp
        first | done | exact ⟨rfl, rfl⟩ | rfl | (exact ⟨by go_num, rfl⟩) | (simp; done) | trace_state
      simp only [Act.put, List.setIfInBounds_toArray, List.set_cons_zero, List.set_cons_succ]
      refine ag.walk_such (by rfl) (fun W1 hS hE => ?_) (fun y10 => ?_)
      · have h8 : IsB (fun r => cnt (once l1) r + cnt (once l2) r) (k + n2) y8 W1 := hE.of 8 (by kernel_rfl)
        obtain ⟨p1, p2, p3, rfl⟩ := h8.form
        have k3 := HI3.out.later hS
        clear hE
        unfold ag.does
        go_simp
        first | done | (exact ⟨manyB2 _ h8 k3, below_alloc1 _ _⟩)
      simp only [Act.put, List.setIfInBounds_toArray, List.set_cons_zero, List.set_cons_succ]
      refine ag.walk_such (by rfl) (fun W1 hS hE => ?_) (fun y11 => ?_)
      · have h10 : ManyB 2 (fun r => cnt (once l1) r + cnt (once l2) r + cnt (once l3) r) (k + n2 + n3) y10 W1 := hE.of 10 (by kernel_rfl)
        clear hE
        unfold ag.does
        go_simp
        first | done | (exact plus_isB (by decide) (by omega) h10)
      simp only [Act.put, List.setIfInBounds_toArray, List.set_cons_zero, List.set_cons_succ]
      apply ag.walk_val
      · rfl
      · intro W1 hS hE
        have c1 := HF3.out W1 hS
        clear hS hE
        unfold ag.does
        go_simp
        first | done | exact ⟨rfl, rfl⟩ | rfl | (exact ⟨by go_num, rfl⟩) | (simp; done) | trace_state
      simp only [Act.put, List.setIfInBounds_toArray, List.set_cons_zero, List.set_cons_succ]
      apply ag.walk_val
      · rfl
      · intro W1 hS hE
        have c1 := HF2.out W1 hS
        clear hS hE
        unfold ag.does
        go_simp
        first | done | exact ⟨rfl, rfl⟩ | rfl | (exact ⟨by go_num, rfl⟩) | (simp; done) | trace_state
      simp only [Act.put, List.setIfInBounds_toArray, List.set_cons_zero, List.set_cons_succ]
      apply ag.walk_val
      · rfl
      · intro W1 hS hE
        have c1 := HF1.out W1 hS
        clear hS hE
        unfold ag.does
        go_simp
        first | done | exact ⟨rfl, rfl⟩ | rfl | (exact ⟨by go_num, rfl⟩) | (simp; done) | trace_state
      simp only [Act.put, List.setIfInBounds_toArray, List.set_cons_zero, List.set_cons_succ]
      refine ag.walk_such (by rfl) (fun W1 hS hE => ?_) (fun y15 => ?_)
      · have k1 := HI1.out.later hS
        have k2 := HI2.out.later hS
        clear hE
        unfold ag.does
        go_simp
        first | done | (exact ⟨manyB2 _ k2 k1, below_alloc1 _ _⟩)
      simp only [Act.put, List.setIfInBounds_toArray, List.set_cons_zero, List.set_cons_succ]
      refine ag.walk_such (by rfl) (fun W1 hS hE => ?_) (fun y16 => ?_)
      · have h15 : ManyB 2 (fun r => cnt (once l2) r + cnt (once l1) r) (n2 + k) y15 W1 := hE.of 15 (by kernel_rfl)
        clear hE
        unfold ag.does
        go_simp
        first | done | (exact plus_isB (by decide) (by omega) h15)
      simp only [Act.put, List.setIfInBounds_toArray, List.set_cons_zero, List.set_cons_succ]
      refine ag.walk_such (by rfl) (fun W1 hS hE => ?_) (fun y17 => ?_)
      · have h16 : IsB (fun r => cnt (once l2) r + cnt (once l1) r) (n2 + k) y16 W1 := hE.of 16 (by kernel_rfl)
        obtain ⟨p1, p2, p3, rfl⟩ := h16.form
        have k3 := HI3.out.later hS
        clear hE
        unfold ag.does
        go_simp
        first | done | (exact ⟨manyB2 _ k3 h16, below_alloc1 _ _⟩)
      simp only [Act.put, List.setIfInBounds_toArray, List.set_cons_zero, List.set_cons_succ]
      refine ag.walk_such (by rfl) (fun W1 hS hE => ?_) (fun y18 => ?_)
      · have h17 : ManyB 2 (fun r => cnt (once l3) r + (cnt (once l2) r + cnt (once l1) r)) (n3 + (n2 + k)) y17 W1 := hE.of 17 (by kernel_rfl)
        clear hE
        unfold ag.does
        go_simp
        first | done | (exact plus_isB (by decide) (by omega) h17)
      simp only [Act.put, List.setIfInBounds_toArray, List.set_cons_zero, List.set_cons_succ]
      refine ag.walk_such (by rfl) (fun W1 hS hE => ?_) (fun y19 => ?_)
      · have h11 : IsB (fun r => cnt (once l1) r + cnt (once l2) r + cnt (once l3) r) (k + n2 + n3) y11 W1 := hE.of 11 (by kernel_rfl)
        have h18 : IsB (fun r => cnt (once l3) r + (cnt (once l2) r + cnt (once l1) r)) (n3 + (n2 + k)) y18 W1 := hE.of 18 (by kernel_rfl)
        clear hE
        unfold ag.does
        go_simp
        first | done | (exact same_isB (by omega) (by omega) h11 h18 (fun r => by omega))
      simp only [Act.put, List.setIfInBounds_toArray, List.set_cons_zero, List.set_cons_succ]
      apply ag.walk_val
      · rfl
      · intro W1 hS hE
        have e19 : y19 = .bool true := hE.of 19 (by kernel_rfl)
        subst e19
        clear hS hE
        unfold ag.does
        go_simp
        first | done | exact ⟨rfl, rfl⟩ | rfl | (exact ⟨by go_num, rfl⟩) | (simp; done) | trace_state
      simp only [Act.put, List.setIfInBounds_toArray, List.set_cons_zero, List.set_cons_succ]
      apply ag.walk_val
      · rfl
      · intro W1 hS hE
        clear hS hE
        unfold ag.does
        go_simp
        first | done | exact ⟨rfl, rfl⟩ | rfl | (exact ⟨by go_num, rfl⟩) | (simp; done) | trace_state
      simp only [Act.put, List.setIfInBounds_toArray, List.set_cons_zero, List.set_cons_succ]
      apply ag.walk_val
      · rfl
      · intro W1 hS hE
        have c1 := HF1.out W1 hS
        clear hS hE
        unfold ag.does
        go_simp
        first | done | exact ⟨rfl, rfl⟩ | rfl | (exact ⟨by go_num, rfl⟩) | (simp; done) | trace_state
      simp only [Act.put, List.setIfInBounds_toArray, List.set_cons_zero, List.set_cons_succ]
      apply ag.walk_val
      · rfl
      · intro W1 hS hE
        clear hS hE
        unfold ag.does
        go_simp
        first | done | exact ⟨rfl, rfl⟩ | rfl | (exact ⟨by go_num, rfl⟩) | (simp; done) | trace_state
      simp only [Act.put, List.setIfInBounds_toArray, List.set_cons_zero, List.set_cons_succ]
      refine ag.walk_such (by rfl) (fun W1 hS hE => ?_) (fun y24 => ?_)
      · have k1 := HI1.out.later hS
        clear hE
        unfold ag.does
        go_simp
        first | done | (exact ⟨manyB2 _ k1 (isB_none W1), below_alloc1 _ _⟩)
      simp only [Act.put, List.setIfInBounds_toArray, List.set_cons_zero, List.set_cons_succ]
      refine ag.walk_such (by rfl) (fun W1 hS hE => ?_) (fun y25 => ?_)
      · have h24 : ManyB 2 (fun r => cnt (once l1) r + 0) (k + 0) y24 W1 := hE.of 24 (by kernel_rfl)
        clear hE
        unfold ag.does
        go_simp
        first | done | (exact plus_isB (by decide) (by omega) h24)
      simp only [Act.put, List.setIfInBounds_toArray, List.set_cons_zero, List.set_cons_succ]
      apply ag.walk_val
      · rfl
      · intro W1 hS hE
        have c1 := HF1.out W1 hS
        clear hS hE
        unfold ag.does
        go_simp
        first | done | exact ⟨rfl, rfl⟩ | rfl | (exact ⟨by go_num, rfl⟩) | (simp; done) | trace_state
      simp only [Act.put, List.setIfInBounds_toArray, List.set_cons_zero, List.set_cons_succ]
      refine ag.walk_such (by rfl) (fun W1 hS hE => ?_) (fun y27 => ?_)
      · have h25 : IsB (fun r => cnt (once l1) r + 0) (k + 0) y25 W1 := hE.of 25 (by kernel_rfl)
        have k1 := HI1.out.later hS
        clear hE
        unfold ag.does
        go_simp
        first | done | (exact same_isB (by omega) (by omega) h25 k1 (fun r => by rfl))
      simp only [Act.put, List.setIfInBounds_toArray, List.set_cons_zero, List.set_cons_succ]
      apply ag.walk_val
      · rfl
      · intro W1 hS hE
        have e27 : y27 = .bool true := hE.of 27 (by kernel_rfl)
        subst e27
        clear hS hE
        unfold ag.does
        go_simp
        first | done | exact ⟨rfl, rfl⟩ | rfl | (exact ⟨by go_num, rfl⟩) | (simp; done) | trace_state
      simp only [Act.put, List.setIfInBounds_toArray, List.set_cons_zero, List.set_cons_succ]
      apply ag.walk_val
      · rfl
      · intro W1 hS hE
        clear hS hE
        unfold ag.does
        go_simp
        first | done | exact ⟨rfl, rfl⟩ | rfl | (exact ⟨by go_num, rfl⟩) | (simp; done) | trace_state
      simp only [Act.put, List.setIfInBounds_toArray, List.set_cons_zero, List.set_cons_succ]
      apply ag.walk_val
      · rfl
      · intro W1 hS hE
        have c1 := HF1.out W1 hS
        clear hS hE
        unfold ag.does
        go_simp
        first | done | exact ⟨rfl, rfl⟩ | rfl | (exact ⟨by go_num, rfl⟩) | (simp; done) | trace_state
      simp only [Act.put, List.setIfInBounds_toArray, List.set_cons_zero, List.set_cons_succ]
      apply ag.walk_val
      · rfl
      · intro W1 hS hE
        have c1 := HF2.out W1 hS
        clear hS hE
        unfold ag.does
        go_simp
        first | done | exact ⟨rfl, rfl⟩ | rfl | (exact ⟨by go_num, rfl⟩) | (simp; done) | trace_state
      simp only [Act.put, List.setIfInBounds_toArray, List.set_cons_zero, List.set_cons_succ]
      apply ag.walk_val
      · rfl
      · intro W1 hS hE
        have c1 := HF3.out W1 hS
        clear hS hE
        unfold ag.does
        go_simp
        first | done | exact ⟨rfl, rfl⟩ | rfl | (exact ⟨by go_num, rfl⟩) | (simp; done) | trace_state
      simp only [Act.put, List.setIfInBounds_toArray, List.set_cons_zero, List.set_cons_succ]
      refine ag.walk_such (by rfl) (fun W1 hS hE => ?_) (fun y33 => ?_)
      · have k1 := HI1.out.later hS
        have k2 := HI2.out.later hS
        have k3 := HI3.out.later hS
        clear hE
        unfold ag.does
        go_simp
        first | done | (exact ⟨manyB3 _ k1 k2 k3, below_alloc1 _ _⟩)
      simp only [Act.put, List.setIfInBounds_toArray, List.set_cons_zero, List.set_cons_succ]
      refine ag.walk_such (by rfl) (fun W1 hS hE => ?_) (fun y34 => ?_)
      · have h33 : ManyB 3 (fun r => cnt (once l1) r + cnt (once l2) r + cnt (once l3) r) (k + n2 + n3) y33 W1 := hE.of 33 (by kernel_rfl)
        clear hE
        unfold ag.does
        go_simp
        first | done | (exact plus_isB (by decide) (by omega) h33)
      simp only [Act.put, List.setIfInBounds_toArray, List.set_cons_zero, List.set_cons_succ]
      refine ag.walk_such (by rfl) (fun W1 hS hE => ?_) (fun y35 => ?_)
      · have h34 : IsB (fun r => cnt (once l1) r + cnt (once l2) r + cnt (once l3) r) (k + n2 + n3) y34 W1 := hE.of 34 (by kernel_rfl)
        clear hE
        unfold ag.does
        go_simp
        first | done | (refine (len_isB (by omega) h34).mono ?_; rintro e W2 ⟨v, rfl, rfl, hb⟩; exact ⟨_, rfl, by push_cast; rfl, hb⟩)
      simp only [Act.put, List.setIfInBounds_toArray, List.set_cons_zero, List.set_cons_succ]
      apply ag.walk_val
      · rfl
      · intro W1 hS hE
        clear hS hE
        unfold ag.does
        go_simp
        first | done | exact ⟨rfl, rfl⟩ | rfl | (exact ⟨by go_num, rfl⟩) | (simp; done) | trace_state
      simp only [Act.put, List.setIfInBounds_toArray, List.set_cons_zero, List.set_cons_succ]
      apply ag.walk_val
      · rfl
      · intro W1 hS hE
        clear hS hE
        unfold ag.does
        go_simp
        first | done | exact ⟨rfl, rfl⟩ | rfl | (exact ⟨by go_num, rfl⟩) | (simp; done) | trace_state
      simp only [Act.put, List.setIfInBounds_toArray, List.set_cons_zero, List.set_cons_succ]
      apply ag.walk_val
      · rfl
      · intro W1 hS hE
        clear hS hE
        unfold ag.does
        go_simp
        first | done | exact ⟨rfl, rfl⟩ | rfl | (exact ⟨by go_num, rfl⟩) | (simp; done) | trace_state
      simp only [Act.put, List.setIfInBounds_toArray, List.set_cons_zero, List.set_cons_succ]
      apply ag.walk_val
      · rfl
      · intro W1 hS hE
        clear hS hE
        unfold ag.does
        go_simp
        first | done | exact ⟨rfl, rfl⟩ | rfl | (exact ⟨by go_num, rfl⟩) | (simp; done) | trace_state
      simp only [Act.put, List.setIfInBounds_toArray, List.set_cons_zero, List.set_cons_succ]
      apply ag.walk_val
      · rfl
      · intro W1 hS hE
        have q1 : IntKind.i64.wrap ((k : Int) + (n2 : Int)) = (k : Int) + (n2 : Int) := Go.IntWalk.i64_in _ (by omega)
        clear hS hE
        unfold ag.does
        go_simp
        first | done | exact ⟨rfl, rfl⟩ | rfl | (exact ⟨by go_num, rfl⟩) | (simp; done) | trace_state
      simp only [Act.put, List.setIfInBounds_toArray, List.set_cons_zero, List.set_cons_succ]
      apply ag.walk_val
      · rfl
      · intro W1 hS hE
        clear hS hE
        unfold ag.does
        go_simp
        first | done | exact ⟨rfl, rfl⟩ | rfl | (exact ⟨by go_num, rfl⟩) | (simp; done) | trace_state
      simp only [Act.put, List.setIfInBounds_toArray, List.set_cons_zero, List.set_cons_succ]
      apply ag.walk_val
      · rfl
      · intro W1 hS hE
        clear hS hE
        unfold ag.does
        go_simp
        first | done | exact ⟨rfl, rfl⟩ | rfl | (exact ⟨by go_num, rfl⟩) | (simp; done) | trace_state
      simp only [Act.put, List.setIfInBounds_toArray, List.set_cons_zero, List.set_cons_succ]
      apply ag.walk_val
      · rfl
      · intro W1 hS hE
        have q2 : IntKind.i64.wrap ((k : Int) + (n2 : Int) + (n3 : Int)) = (k : Int) + (n2 : Int) + (n3 : Int) := Go.IntWalk.i64_in _ (by omega)
        clear hS hE
        unfold ag.does
        go_simp
        first | done | exact ⟨rfl, rfl⟩ | rfl | (exact ⟨by go_num, rfl⟩) | (simp; done) | trace_state
      simp only [Act.put, List.setIfInBounds_toArray, List.set_cons_zero, List.set_cons_succ]
      apply ag.walk_val
      · rfl
      · intro W1 hS hE
        have e35 : y35 = .int .i64 ((k : Int) + (n2 : Int) + (n3 : Int)) := hE.of 35 (by kernel_rfl)
        subst e35
        clear hS hE
        unfold ag.does
        go_simp
        first | done | exact ⟨rfl, rfl⟩ | rfl | (exact ⟨by go_num, rfl⟩) | (simp; done) | trace_state
      simp only [Act.put, List.setIfInBounds_toArray, List.set_cons_zero, List.set_cons_succ]
      apply ag.walk_val
      · rfl
      · intro W1 hS hE
        clear hS hE
        unfold ag.does
        go_simp
        first | done | exact ⟨rfl, rfl⟩ | rfl | (exact ⟨by go_num, rfl⟩) | (simp; done) | trace_state
      simp only [Act.put, List.setIfInBounds_toArray, List.set_cons_zero, List.set_cons_succ]
      apply ag.walk_val
      · rfl
      · intro W1 hS hE
        clear hS hE
        unfold ag.does
        go_simp
        first | done | exact ⟨rfl, rfl⟩ | rfl | (exact ⟨by go_num, rfl⟩) | (simp; done) | trace_state
      simp only [Act.put, List.setIfInBounds_toArray, List.set_cons_zero, List.set_cons_succ]
      refine ag.walk_nil (fun w5 hS hF hP => ?_)
      clear hP
      clear hF
      have HS := Lib.hid (HB5.out.trans ((HX4.out.trans (hS.mono HX4.out.size)).mono HB5.out.size))
      clear hS
      go_wp2_with fail
      go_ret
      exact ⟨rfl, HS.out⟩
    · have e0 : ((m + 1 : Nat) : Int) - 1 = (m : Int) := by omega
      rw [e0]
      clear e0
      have hm0 : (0 : Int) ≤ (m : Int) := by omega
      have hm1 : (m : Int) < (n1 : Int) := by omega
      have hmr : m < ra1.length := by rw [HT13.out.2.2.1]; omega
      obtain ⟨g, rfl, -, hgl, hcl, -⟩ := owns_cellAt HT13.out.2.2.2.2.1 (by omega)
      have hone : (ra1[m]).oneCell' = true := HT13.out.2.2.2.2.2.2.1.rws.one _ (List.getElem_mem hmr)
      have hrd := drop_rev ra1 m hmr
      have hsh : ∃ ua un uc, ra1[m] = .slice ua un uc := by
        have hml : m < l1.length := by rw [HN1.out]; omega
        obtain ⟨ua, uc, e⟩ := owns_shape (HT13.out.2.2.2.2.2.2.1.2 m _ _ (List.getElem?_eq_getElem hmr) (List.getElem?_eq_getElem hml))
        exact ⟨ua, _, uc, e⟩
      have HRD : Hid ((ra1.drop m).reverse = us ++ [ra1[m]]) := Lib.hid (by rw [hrd, HU.out.2.1])
      have q0 : wr.cell? ⟨g, m, none⟩ = some ra1[m] := (cell_later HB.out ((hcl m (by omega)).trans (List.getElem?_eq_getElem hmr)))
      have lg : g < wr.heap.size := Nat.lt_of_lt_of_le hgl HB.out.size
      generalize ra1[m] = u at *
      obtain ⟨ua, un, uc, rfl⟩ := hsh
      obtain ⟨a5, c5, w5, hrun, ho5, hb5⟩ := apZ_row (u := .slice ua un uc) k HU.out.1 (by omega) HU.out.2.2 HB.out.size hone
      have HO5 := Lib.hid ho5
      have HB5 := Lib.hid (HB.out.trans hb5)
      have HMR := Lib.hid hmr
      clear hcl hrd ho5 hb5 hgl hmr hone
      go_wp2_with fail
      go_roundw
      case rel => exact ⟨m, k + 1, a5, c5, us ++ [.slice ua un uc], rfl, rfl, by omega, Lib.hid ⟨by rw [List.length_append, HU.out.1]; rfl, HRD.out.symm, HO5.out⟩, HB5⟩
      case measure => simp [intOf]
end Go.Proofs.Ytpkkhbmlclicfaa.val
