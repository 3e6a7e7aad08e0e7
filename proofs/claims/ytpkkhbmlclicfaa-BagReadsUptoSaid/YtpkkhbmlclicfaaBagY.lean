/- What the laws on bags ask first, walked. -/
import Derived.Test.YtpkkhbmlclicfaaMD
import Derived.Test.YtpkkhbmlclicfaaMB
namespace Go.Proofs.Ytpkkhbmlclicfaa.val
set_option linter.unusedVariables false
open Go.RowKit Go.Sort
attribute [local go_sem high] run_eqlV run_neqV
attribute [local go_sem] ag.upon_value ag.upon_skip ag.upon_enter
attribute [local go_sem] Oper.semAt_some
abbrev r1 : List V := [ofN 1]
abbrev r0 : List V := [ofN 0]
theorem ofN_good (n : Int) (h : -9223372036854775808 ≤ n ∧ n ≤ 9223372036854775807) : Goods [ofN n] := by
  intro v hv
  rw [List.mem_singleton.1 hv]
  exact .inr (.inr (.inl ⟨rfl, rfl, h.1, h.2⟩))
theorem row1_new (W : World) (n : Int) (T : TypeId) : IsRow (W.alloc (.cells #[.int .i64 2, .int .i64 n, .string nob] T)) (.slice (some ⟨W.heap.size, 0, none⟩) 1 1) [ofN n] :=
  ⟨_, _, rfl, rfl, .inr ⟨_, 0, rfl, fun j hj => by rw [cells_new W [.int .i64 2, .int .i64 n, .string nob], Nat.zero_add]; rfl⟩⟩
theorem rws3 {W : World} {a b c : Value} {p q r : List V} (ha : IsRow W a p) (hb : IsRow W b q) (hc : IsRow W c r) : Rws W [a, b, c] [p, q, r] := (((Rws.nil W).snoc ha).snoc hb).snoc hc
/-- the bag that the law builds -/
theorem speaks_bag {o : BL} (hs : Strict o) (hc : ∀ r, cnt o r = cnt (once [r1, r0, r1]) r) : o = [(r0, 1), (r1, 2)] := by
  refine strict_unique _ _ hs ⟨?_, ?_⟩ (fun r => (hc r).trans ?_)
  · refine List.Pairwise.cons ?_ (List.Pairwise.cons (fun _ h => by cases h) List.Pairwise.nil)
    intro y hy
    rw [List.mem_singleton.1 hy]
    decide +kernel
  · intro x hx
    simp only [List.mem_cons, List.mem_nil_iff, or_false] at hx
    rcases hx with rfl | rfl <;> decide
  · simp only [once, List.map_cons, List.map_nil, cnt_cons, cnt_nil]
    by_cases h1 : r1 = r <;> by_cases h2 : r0 = r <;> simp only [h1, h2, if_true, if_false]
set_option maxRecDepth 100000 in
set_option maxHeartbeats 4000000 in
theorem speaks8 (W : World) : Calls Try.prog 6 #[] W fun e w' => e = .returned (.bool true) ∧ Below W.heap.size W w' := by
  go_enter Try.func6, Try.ntmps6
  go_wp2_with fail
  (with_reducible refine (ofI_lit 1 _).mono ?_); rintro e w1 ⟨rfl, hb1⟩
  have HB1 := Lib.hid hb1
  clear hb1
  go_wp2_with fail
  have hr1 := row1_new w1 1 TV
  have hbx := HB1.out.alloc HB1.out.size (.cells #[.int .i64 2, .int .i64 1, .string nob] TV)
  generalize w1.alloc (.cells #[.int .i64 2, .int .i64 1, .string nob] TV) = X at *
  generalize w1.heap.size = g1 at *
  have HR1 := Lib.hid hr1
  have HBX := Lib.hid hbx
  clear hr1 hbx HB1
  (with_reducible refine (ofI_lit 0 _).mono ?_); rintro e w2 ⟨rfl, hb2⟩
  have HB2 := Lib.hid hb2
  clear hb2
  go_wp2_with fail
  have hr0 := row1_new w2 0 TV
  have hal2 := below_alloc1 w2 (.cells #[.int .i64 2, .int .i64 0, .string nob] TV)
  have hzY := World.size_alloc w2 (.cells #[.int .i64 2, .int .i64 0, .string nob] TV)
  have hrw := row_new (w2.alloc (.cells #[.int .i64 2, .int .i64 0, .string nob] TV)) [.slice (some ⟨g1, 0, none⟩) 1 1, .slice (some ⟨w2.heap.size, 0, none⟩) 1 1, .slice (some ⟨g1, 0, none⟩) 1 1] 49 (by simp [maxLen])
  rw [hzY] at hrw
  generalize w2.alloc (.cells #[.int .i64 2, .int .i64 0, .string nob] TV) = Y at *
  have hal3 := below_alloc1 Y (.cells #[.slice (some ⟨g1, 0, none⟩) 1 1, .slice (some ⟨w2.heap.size, 0, none⟩) 1 1, .slice (some ⟨g1, 0, none⟩) 1 1] 49)
  have hxy := HB2.out.trans (hal2.mono HB2.out.size)
  have hxz := hxy.trans (hal3.mono hxy.size)
  have HOF := Lib.hid (of_any (.slice (some ⟨w2.heap.size + 1, 0, none⟩) 3 3) [.slice (some ⟨g1, 0, none⟩) 1 1, .slice (some ⟨w2.heap.size, 0, none⟩) 1 1, .slice (some ⟨g1, 0, none⟩) 1 1] [r1, r0, r1] (by simp) (fun l hl => by simp only [List.mem_cons, List.mem_nil_iff, or_false] at hl; rcases hl with rfl | rfl | rfl <;> exact ofN_good _ (by decide)) (fun l hl => by simp only [List.mem_cons, List.mem_nil_iff, or_false] at hl; rcases hl with rfl | rfl | rfl <;> decide) _ hrw (rws3 (HR1.out.later hxz) (hr0.later hal3) (HR1.out.later hxz)) (by simp))
  have HBZ := Lib.hid (HBX.out.trans (hxz.mono HBX.out.size))
  clear hr0 hal2 hzY hrw hal3 hxy hxz
  generalize w2.heap.size = g2 at *
  (with_reducible refine HOF.out.mono ?_); rintro e w3 ⟨bv, rfl, o, hbag, hcnt, -, hb3⟩
  obtain rfl := speaks_bag hbag.strict hcnt
  have HB3 := Lib.hid (HBZ.out.trans (hb3.mono HBZ.out.size))
  clear hcnt hb3 HOF HBZ
  obtain ⟨a, c, xs, rfl, -⟩ := id hbag
  obtain ⟨n0, hn0⟩ : ∃ n0 : Nat, ([(r0, 1), (r1, 2)] : BL).length = n0 := ⟨_, rfl⟩
  rw [hn0] at hbag
  have HBG := Lib.hid hbag
  clear hbag
  rw [hn0]
  clear hn0
  go_upto_region 3 with fail
  obtain ⟨X, hX⟩ : ∃ X, w3.alloc (.cells #[.slice a n0 c] TB) = X := ⟨_, rfl⟩
  have hf : Flds X w3.heap.size TB [.slice a n0 c] := by rw [← hX]; exact Flds.new w3 TB [.slice a n0 c]
  have hb : Below w3.heap.size w3 X := by rw [← hX]; exact (Below.refl _ _).alloc (Nat.le_refl _) _
  rw [hX]
  clear hX
  have HGX := Lib.hid (HBG.out.later hb)
  have HBX4 := Lib.hid (HB3.out.trans (hb.mono HB3.out.size))
  clear hb HB3 HBG
  generalize w3.heap.size = gx at *
  have HFX := Lib.hid hf
  have cx := hf.cell 0
  have lx := hf.lt
  simp only [List.getElem?_cons_zero] at cx
  clear hf
  have HRO := Lib.hid (bagrows_any (.agg #[.slice a n0 c]) [(r0, 1), (r1, 2)] (by decide) X HGX.out)
  go_wp2_with fail
  (with_reducible refine HRO.out.mono ?_); rintro e w4 ⟨lv, rfl, us, hou, hru, hb4⟩
  have hul : us.length = 3 := hru.1
  obtain ⟨u0, u1, u2, rfl⟩ : ∃ u0 u1 u2, us = [u0, u1, u2] := by
    match us, hul with
    | [u0, u1, u2], _ => exact ⟨u0, u1, u2, rfl⟩
  have h0 : w4.ownsRow X.heap.size TV 3 u0 1 (vCells r0) := hru.2 0 u0 r0 rfl rfl
  have h2 : w4.ownsRow X.heap.size TV 3 u2 1 (vCells r1) := hru.2 2 u2 r1 rfl rfl
  obtain ⟨al, cl, rfl⟩ := owns_shape hou
  obtain ⟨a0, c0, rfl⟩ := owns_shape h0
  obtain ⟨a2, c2, rfl⟩ := owns_shape h2
  obtain ⟨gl, rfl, -, ll, hcl, -⟩ := owns_cellAt hou (by simp)
  obtain ⟨g0, rfl, -, l0, hc0, -⟩ := owns_cellAt h0 (by decide)
  obtain ⟨g2', rfl, -, l2, hc2, -⟩ := owns_cellAt h2 (by decide)
  have HC := Lib.hid (fun (W1 : World) (h : Below w4.heap.size w4 W1) => (⟨(cell_later h ((hcl 0 (by simp)).trans rfl)), (cell_later h ((hcl 2 (by simp)).trans rfl)), (cell_later h ((hc0 0 (by decide)).trans rfl)), (cell_later h ((hc0 1 (by decide)).trans rfl)), (cell_later h ((hc0 2 (by decide)).trans rfl)), (cell_later h ((hc2 0 (by decide)).trans rfl)), (cell_later h ((hc2 1 (by decide)).trans rfl)), (cell_later h ((hc2 2 (by decide)).trans rfl))⟩ :
    W1.cell? ⟨gl, 0, none⟩ = some (.slice (some ⟨g0, 0, none⟩) 1 c0) ∧ W1.cell? ⟨gl, 2, none⟩ = some (.slice (some ⟨g2', 0, none⟩) 1 c2) ∧ W1.cell? ⟨g0, 0, none⟩ = some (.int .i64 2) ∧ W1.cell? ⟨g0, 1, none⟩ = some (.int .i64 0) ∧ W1.cell? ⟨g0, 2, none⟩ = some (.string nob) ∧ W1.cell? ⟨g2', 0, none⟩ = some (.int .i64 2) ∧ W1.cell? ⟨g2', 1, none⟩ = some (.int .i64 1) ∧ W1.cell? ⟨g2', 2, none⟩ = some (.string nob)))
  have HF4 := Lib.hid (HFX.out.later hb4)
  have HG4 := Lib.hid (HGX.out.later hb4)
  have HB4 := Lib.hid (HBX4.out.trans (hb4.mono HBX4.out.size))
  clear hul hou hru hb4 h0 h2 hcl hc0 hc2 ll l0 l2 cx lx HFX HGX HBX4 HRO
  go_upto_region 4 with fail
  have hlx : ([r0, r1, r1] : List (List V)).length = 3 := rfl
  have HIS : Hid (IsB (fun r => cnt [(r0, 1), (r1, 2)] r) 3 (.agg #[.slice a n0 c]) w4) := Lib.hid (IsB.of HG4.out (fun _ => rfl) rfl)
  have HDI := Lib.hid (fun (W : World) (h : Below w4.heap.size w4 W) => distinct_any (.agg #[.slice a n0 c]) [(r0, 1), (r1, 2)] (by decide) W (HG4.out.later h))
  apply ag.region_calm (ag.Spec.val _ :: ag.Spec.sat (fun v _ => v = .int .i64 ((3 : Nat) : Int)) ag.grew :: ag.Spec.val _ :: ag.Spec.val (.bool true) :: ag.Spec.val _ :: ag.Spec.sat (IsB (cnt (ones [(r0, 1), (r1, 2)])) 2) ag.grew :: ag.Spec.sat (fun v _ => v = .int .i64 ((2 : Nat) : Int)) ag.grew :: ag.Spec.val _ :: ag.Spec.val _ :: ag.Spec.val (.bool true) :: ag.Spec.val _ :: ag.Spec.val _ :: ag.Spec.val _ :: ag.Spec.val _ :: ag.Spec.val (.bool true) :: ag.Spec.val _ :: ag.Spec.val _ :: ag.Spec.val _ :: ag.Spec.val _ :: ag.Spec.val _ :: ag.Spec.sat (fun v _ => v = ag3 2 0 nob) ag.grew :: ag.Spec.val _ :: ag.Spec.val _ :: ag.Spec.val (.bool true) :: ag.Spec.val _ :: ag.Spec.val _ :: ag.Spec.val _ :: ag.Spec.val _ :: ag.Spec.val _ :: ag.Spec.sat (fun v _ => v = ag3 2 1 nob) ag.grew :: ag.Spec.val _ :: ag.Spec.val _ :: ag.Spec.val _ :: [])
  case hm => kernel_rfl
  case hB => kernel_rfl
  case hlen => rfl
  case hc => exact ⟨⟨ag.lasts_eq _, rfl⟩, ⟨lasts_isB _ _, rfl⟩, ⟨ag.lasts_eq _, rfl⟩, ⟨ag.lasts_eq _, rfl⟩, ⟨ag.lasts_eq _, rfl⟩, trivial⟩
  apply ag.walk_val
  · rfl
  · intro W1 hS hE
    have c1 := (HF4.out.later hS).cell 0
    simp only [List.getElem?_cons_zero] at c1
    clear hS hE
    unfold ag.does
    go_simp
    first | done | exact ⟨rfl, rfl⟩ | rfl | (exact ⟨by go_num, rfl⟩)
  simp only [Act.put, List.setIfInBounds_toArray, List.set_cons_zero, List.set_cons_succ]
  refine ag.walk_such (by rfl) (fun W1 hS hE => ?_) (fun y1 => ?_)
  · clear hE
    unfold ag.does
    go_simp
    exact len_isB (by decide) (HIS.out.later hS)
  simp only [Act.put, List.setIfInBounds_toArray, List.set_cons_zero, List.set_cons_succ]
  apply ag.walk_val
  · rfl
  · intro W1 hS hE
    have h1 : y1 = .int .i64 ((3 : Nat) : Int) := hE.of 1 (by kernel_rfl)
    subst h1
    clear hS hE
    unfold ag.does
    go_simp
    first | done | exact ⟨rfl, rfl⟩ | rfl | (exact ⟨by go_num, rfl⟩)
  simp only [Act.put, List.setIfInBounds_toArray, List.set_cons_zero, List.set_cons_succ]
  apply ag.walk_val
  · rfl
  · intro W1 hS hE
    clear hS hE
    unfold ag.does
    go_simp
    first | done | exact ⟨rfl, rfl⟩ | rfl | (exact ⟨by go_num, rfl⟩)
  simp only [Act.put, List.setIfInBounds_toArray, List.set_cons_zero, List.set_cons_succ]
  apply ag.walk_val
  · rfl
  · intro W1 hS hE
    have c1 := (HF4.out.later hS).cell 0
    simp only [List.getElem?_cons_zero] at c1
    clear hS hE
    unfold ag.does
    go_simp
    first | done | exact ⟨rfl, rfl⟩ | rfl | (exact ⟨by go_num, rfl⟩)
  simp only [Act.put, List.setIfInBounds_toArray, List.set_cons_zero, List.set_cons_succ]
  refine ag.walk_such (by rfl) (fun W1 hS hE => ?_) (fun y5 => ?_)
  · clear hE
    have hd := HDI.out W1 hS
    unfold ag.does
    go_simp
    refine hd.mono ?_; rintro e W2 ⟨v, rfl, h, hb⟩; exact ⟨v, rfl, IsB.of h (fun _ => rfl) rfl, hb⟩
  simp only [Act.put, List.setIfInBounds_toArray, List.set_cons_zero, List.set_cons_succ]
  refine ag.walk_such (by rfl) (fun W1 hS hE => ?_) (fun y6 => ?_)
  · have h1 : IsB _ 2 y5 W1 := hE.of 5 (by kernel_rfl)
    clear hE
    unfold ag.does
    go_simp
    exact len_isB (by decide) h1
  simp only [Act.put, List.setIfInBounds_toArray, List.set_cons_zero, List.set_cons_succ]
  apply ag.walk_val
  · rfl
  · intro W1 hS hE
    have h1 : y6 = .int .i64 ((2 : Nat) : Int) := hE.of 6 (by kernel_rfl)
    subst h1
    clear hS hE
    unfold ag.does
    go_simp
    first | done | exact ⟨rfl, rfl⟩ | rfl | (exact ⟨by go_num, rfl⟩)
  simp only [Act.put, List.setIfInBounds_toArray, List.set_cons_zero, List.set_cons_succ]
  apply ag.walk_val
  · rfl
  · intro W1 hS hE
    clear hS hE
    unfold ag.does
    go_simp
    first | done | exact ⟨rfl, rfl⟩ | rfl | (exact ⟨by go_num, rfl⟩)
  simp only [Act.put, List.setIfInBounds_toArray, List.set_cons_zero, List.set_cons_succ]
  apply ag.walk_val
  · rfl
  · intro W1 hS hE
    clear hS hE
    unfold ag.does
    go_simp
    first | done | exact ⟨rfl, rfl⟩ | rfl | (exact ⟨by go_num, rfl⟩)
  simp only [Act.put, List.setIfInBounds_toArray, List.set_cons_zero, List.set_cons_succ]
  apply ag.walk_val
  · rfl
  · intro W1 hS hE
    clear hS hE
    unfold ag.does
    go_simp
    first | done | exact ⟨rfl, rfl⟩ | rfl | (exact ⟨by go_num, rfl⟩)
  simp only [Act.put, List.setIfInBounds_toArray, List.set_cons_zero, List.set_cons_succ]
  apply ag.walk_val
  · rfl
  · intro W1 hS hE
    clear hS hE
    unfold ag.does
    go_simp
    first | done | exact ⟨rfl, rfl⟩ | rfl | (exact ⟨by go_num, rfl⟩)
  simp only [Act.put, List.setIfInBounds_toArray, List.set_cons_zero, List.set_cons_succ]
  apply ag.walk_val
  · rfl
  · intro W1 hS hE
    clear hS hE
    unfold ag.does
    go_simp
    first | done | exact ⟨rfl, rfl⟩ | rfl | (exact ⟨by go_num, rfl⟩)
  simp only [Act.put, List.setIfInBounds_toArray, List.set_cons_zero, List.set_cons_succ]
  apply ag.walk_val
  · rfl
  · intro W1 hS hE
    clear hS hE
    unfold ag.does
    go_simp
    first | done | exact ⟨rfl, rfl⟩ | rfl | (exact ⟨by go_num, rfl⟩)
  simp only [Act.put, List.setIfInBounds_toArray, List.set_cons_zero, List.set_cons_succ]
  apply ag.walk_val
  · rfl
  · intro W1 hS hE
    clear hS hE
    unfold ag.does
    go_simp
    first | done | exact ⟨rfl, rfl⟩ | rfl | (exact ⟨by go_num, rfl⟩)
  simp only [Act.put, List.setIfInBounds_toArray, List.set_cons_zero, List.set_cons_succ]
  apply ag.walk_val
  · rfl
  · intro W1 hS hE
    clear hS hE
    unfold ag.does
    go_simp
    first | done | exact ⟨rfl, rfl⟩ | rfl | (exact ⟨by go_num, rfl⟩)
  simp only [Act.put, List.setIfInBounds_toArray, List.set_cons_zero, List.set_cons_succ]
  apply ag.walk_val
  · rfl
  · intro W1 hS hE
    clear hS hE
    unfold ag.does
    go_simp
    first | done | exact ⟨rfl, rfl⟩ | rfl | (exact ⟨by go_num, rfl⟩)
  simp only [Act.put, List.setIfInBounds_toArray, List.set_cons_zero, List.set_cons_succ]
  apply ag.walk_val
  · rfl
  · intro W1 hS hE
    obtain ⟨k1, -⟩ := HC.out W1 hS
    clear hS hE
    unfold ag.does
    go_simp
    first | done | exact ⟨rfl, rfl⟩ | rfl | (exact ⟨by go_num, rfl⟩)
  simp only [Act.put, List.setIfInBounds_toArray, List.set_cons_zero, List.set_cons_succ]
  apply ag.walk_val
  · rfl
  · intro W1 hS hE
    clear hS hE
    unfold ag.does
    go_simp
    first | done | exact ⟨rfl, rfl⟩ | rfl | (exact ⟨by go_num, rfl⟩)
  simp only [Act.put, List.setIfInBounds_toArray, List.set_cons_zero, List.set_cons_succ]
  apply ag.walk_val
  · rfl
  · intro W1 hS hE
    obtain ⟨-, -, k1, k2, k3, -⟩ := HC.out W1 hS
    clear hS hE
    unfold ag.does
    go_simp
    first | done | exact ⟨rfl, rfl⟩ | rfl | (exact ⟨by go_num, rfl⟩)
  simp only [Act.put, List.setIfInBounds_toArray, List.set_cons_zero, List.set_cons_succ]
  refine ag.walk_such (by rfl) (fun W1 hS hE => ?_) (fun y20 => ?_)
  · clear hE
    unfold ag.does
    go_simp
    refine (ofI_lit _ _).mono ?_; rintro e W2 ⟨rfl, hb⟩; exact ⟨_, rfl, rfl, hb⟩
  simp only [Act.put, List.setIfInBounds_toArray, List.set_cons_zero, List.set_cons_succ]
  apply ag.walk_val
  · rfl
  · intro W1 hS hE
    have h1 : y20 = ag3 2 0 nob := hE.of 20 (by kernel_rfl)
    subst h1
    have q0 : veq6 2 0 nob 2 0 nob = true := by decide +kernel
    clear hS hE
    unfold ag.does
    go_simp
    first | done | exact ⟨rfl, rfl⟩ | rfl | (exact ⟨by go_num, rfl⟩)
  simp only [Act.put, List.setIfInBounds_toArray, List.set_cons_zero, List.set_cons_succ]
  apply ag.walk_val
  · rfl
  · intro W1 hS hE
    clear hS hE
    unfold ag.does
    go_simp
    first | done | exact ⟨rfl, rfl⟩ | rfl | (exact ⟨by go_num, rfl⟩)
  simp only [Act.put, List.setIfInBounds_toArray, List.set_cons_zero, List.set_cons_succ]
  apply ag.walk_val
  · rfl
  · intro W1 hS hE
    clear hS hE
    unfold ag.does
    go_simp
    first | done | exact ⟨rfl, rfl⟩ | rfl | (exact ⟨by go_num, rfl⟩)
  simp only [Act.put, List.setIfInBounds_toArray, List.set_cons_zero, List.set_cons_succ]
  apply ag.walk_val
  · rfl
  · intro W1 hS hE
    clear hS hE
    unfold ag.does
    go_simp
    first | done | exact ⟨rfl, rfl⟩ | rfl | (exact ⟨by go_num, rfl⟩)
  simp only [Act.put, List.setIfInBounds_toArray, List.set_cons_zero, List.set_cons_succ]
  apply ag.walk_val
  · rfl
  · intro W1 hS hE
    clear hS hE
    unfold ag.does
    go_simp
    first | done | exact ⟨rfl, rfl⟩ | rfl | (exact ⟨by go_num, rfl⟩)
  simp only [Act.put, List.setIfInBounds_toArray, List.set_cons_zero, List.set_cons_succ]
  apply ag.walk_val
  · rfl
  · intro W1 hS hE
    obtain ⟨-, k1, -⟩ := HC.out W1 hS
    clear hS hE
    unfold ag.does
    go_simp
    first | done | exact ⟨rfl, rfl⟩ | rfl | (exact ⟨by go_num, rfl⟩)
  simp only [Act.put, List.setIfInBounds_toArray, List.set_cons_zero, List.set_cons_succ]
  apply ag.walk_val
  · rfl
  · intro W1 hS hE
    clear hS hE
    unfold ag.does
    go_simp
    first | done | exact ⟨rfl, rfl⟩ | rfl | (exact ⟨by go_num, rfl⟩)
  simp only [Act.put, List.setIfInBounds_toArray, List.set_cons_zero, List.set_cons_succ]
  apply ag.walk_val
  · rfl
  · intro W1 hS hE
    obtain ⟨-, -, -, -, -, k1, k2, k3⟩ := HC.out W1 hS
    clear hS hE
    unfold ag.does
    go_simp
    first | done | exact ⟨rfl, rfl⟩ | rfl | (exact ⟨by go_num, rfl⟩)
  simp only [Act.put, List.setIfInBounds_toArray, List.set_cons_zero, List.set_cons_succ]
  refine ag.walk_such (by rfl) (fun W1 hS hE => ?_) (fun y29 => ?_)
  · clear hE
    unfold ag.does
    go_simp
    refine (ofI_lit _ _).mono ?_; rintro e W2 ⟨rfl, hb⟩; exact ⟨_, rfl, rfl, hb⟩
  simp only [Act.put, List.setIfInBounds_toArray, List.set_cons_zero, List.set_cons_succ]
  apply ag.walk_val
  · rfl
  · intro W1 hS hE
    have h1 : y29 = ag3 2 1 nob := hE.of 29 (by kernel_rfl)
    subst h1
    have q0 : veq6 2 1 nob 2 1 nob = true := by decide +kernel
    clear hS hE
    unfold ag.does
    go_simp
    first | done | exact ⟨rfl, rfl⟩ | rfl | (exact ⟨by go_num, rfl⟩)
  simp only [Act.put, List.setIfInBounds_toArray, List.set_cons_zero, List.set_cons_succ]
  apply ag.walk_val
  · rfl
  · intro W1 hS hE
    clear hS hE
    unfold ag.does
    go_simp
    first | done | exact ⟨rfl, rfl⟩ | rfl | (exact ⟨by go_num, rfl⟩)
  simp only [Act.put, List.setIfInBounds_toArray, List.set_cons_zero, List.set_cons_succ]
  apply ag.walk_val
  · rfl
  · intro W1 hS hE
    clear hS hE
    unfold ag.does
    go_simp
    first | done | exact ⟨rfl, rfl⟩ | rfl | (exact ⟨by go_num, rfl⟩)
  simp only [Act.put, List.setIfInBounds_toArray, List.set_cons_zero, List.set_cons_succ]
  refine ag.walk_nil (fun w5 hS hF hP => ?_)
  clear hP
  clear hF
  have HS := Lib.hid (HB4.out.trans (hS.mono HB4.out.size))
  clear hS
  go_wp2_with fail
  go_ret
  exact ⟨rfl, HS.out⟩
end Go.Proofs.Ytpkkhbmlclicfaa.val
