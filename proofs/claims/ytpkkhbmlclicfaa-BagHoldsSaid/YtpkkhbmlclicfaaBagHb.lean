/- The law BagHolds, walked. -/
import Derived.Test.YtpkkhbmlclicfaaBagY
import Derived.Test.YtpkkhbmlclicfaaBagLa
import Derived.Test.YtpkkhbmlclicfaaMI
namespace Go.Proofs.Ytpkkhbmlclicfaa.val
set_option linter.unusedVariables false
open Go.RowKit Go.Sort
attribute [local go_sem] ag.upon_value ag.upon_skip ag.upon_enter
attribute [local go_sem] Oper.semAt_some
attribute [local go_sem ↓ high] apQ_eq
theorem RwT.zero {T : TypeId} {B : Nat} {W : World} {vs : List Value} {ls : List (List V)} (h : RwT T B W vs ls) : RwT T 0 W vs ls := ⟨h.1, fun j u l h1 h2 => owns_base (h.2 j u l h1 h2) (fun _ _ => Nat.zero_le _)⟩
/-- what the law has at hand -/
structure Ctx9 (g9 g10 n1 n2 : Nat) (sx sy sp sq : Value) (r1 r2 : List Value) (l1 l2 : List (List V)) (W : World) : Prop where
  f9 : Flds W g9 TB [sx]
  f10 : Flds W g10 TB [sy]
  bx : IsB (cnt (once l1)) n1 (.agg #[sx]) W
  bY : IsB (cnt (once l2)) n2 (.agg #[sy]) W
  rp : Row W sp 1 n1 r1
  rq : Row W sq 1 n2 r2
  tp : RwT TR 0 W r1 l1
  tq : RwT TR 0 W r2 l2
theorem Ctx9.later {g9 g10 n1 n2 : Nat} {sx sy sp sq : Value} {r1 r2 : List Value} {l1 l2 : List (List V)} {W W' : World} (h : Ctx9 g9 g10 n1 n2 sx sy sp sq r1 r2 l1 l2 W) (hb : Below W.heap.size W W') : Ctx9 g9 g10 n1 n2 sx sy sp sq r1 r2 l1 l2 W' :=
  ⟨h.f9.later hb, h.f10.later hb, h.bx.later hb, h.bY.later hb, h.rp.later hb, h.rq.later hb, h.tp.later hb, h.tq.later hb⟩
set_option maxRecDepth 100000 in
set_option maxHeartbeats 8000000 in
theorem holds8_walk (v1 v2 : Value) (vs1 vs2 : List Value) (x1 x2 : List (List Pl)) (hn1 : vs1.length ≤ 9223372036854775807) (hn2 : vs2.length ≤ 9223372036854775807) (W : World)
    (hv1 : Row W v1 1 vs1.length vs1) (hv2 : Row W v2 1 vs2.length vs2) (hi1 : Ins W vs1 x1) (hi2 : Ins W vs2 x2) :
    Calls Try.prog 3 #[v1, v2] W fun e w' => e = .returned (.bool true) ∧ Below W.heap.size W w' := by
  have HR1 := Lib.hid (fun (w : World) (h : Below W.heap.size W w) => rows8_any v1 vs1 x1 hn1 w (hv1.later h) (hi1.later h))
  have HR2 := Lib.hid (fun (w : World) (h : Below W.heap.size W w) => rows8_any v2 vs2 x2 hn2 w (hv2.later h) (hi2.later h))
  clear hv1 hv2 hi1 hi2 hn1 hn2
  go_enter Try.func3, Try.ntmps3
  go_wp2_with fail
  (with_reducible refine (speaks8 _).mono ?_); rintro e w1 ⟨rfl, hb1⟩
  have HB1 := Lib.hid hb1
  clear hb1
  go_wp2_with fail
  (with_reducible refine (HR1.out _ HB1.out).mono ?_); rintro e w2 ⟨s1, t1, rfl, ra1, rb1, l1, HT1, hl1, hb2⟩
  have HB2 := Lib.hid (HB1.out.trans (hb2.mono HB1.out.size))
  clear hb2
  go_wp2_with fail
  (with_reducible refine (HR2.out _ HB2.out).mono ?_); rintro e w3 ⟨s2, t2, rfl, ra2, rb2, l2, HT2, hl2, hb3⟩
  have HT12 := Lib.hid (HT1.out.later hb3)
  have HB3 := Lib.hid (HB2.out.trans (hb3.mono HB2.out.size))
  clear hb3 HT1 HR1 HR2 HB1 HB2
  obtain ⟨a1, c1, rfl⟩ := owns_shape HT12.out.2.2.2.2.1
  obtain ⟨a2, c2, rfl⟩ := owns_shape HT2.out.2.2.2.2.1
  obtain ⟨p1, q1, rfl⟩ := owns_shape HT12.out.2.2.2.2.2.1
  obtain ⟨p2, q2, rfl⟩ := owns_shape HT2.out.2.2.2.2.2.1
  generalize hn1 : l1.length = n1 at *
  generalize hn2 : l2.length = n2 at *
  have HN1 := Lib.hid hn1; have HN2 := Lib.hid hn2
  clear hn1 hn2
  have i10 : (0 : Int) ≤ (n1 : Int) := by omega
  have i11 : (n1 : Int) ≤ 12 := by omega
  have i20 : (0 : Int) ≤ (n2 : Int) := by omega
  have i21 : (n2 : Int) ≤ 12 := by omega
  have HO1 := Lib.hid (fun (w : World) (h : Below w3.heap.size w3 w) => told_row HT12.out hl1 h)
  have HO2 := Lib.hid (fun (w : World) (h : Below w3.heap.size w3 w) => told_row HT2.out hl2 h)
  go_wp2_with fail
  (with_reducible refine (HO1.out _ (Below.refl _ _)).mono ?_); rintro e w4 ⟨b1, rfl, hi1, hb4⟩
  have HB4 := Lib.hid hb4
  have HI1 := Lib.hid hi1
  clear hb4 hi1
  go_wp2_with fail
  (with_reducible refine (HO2.out _ HB4.out).mono ?_); rintro e w5 ⟨b2, rfl, hi2, hb5⟩
  have HB5 := Lib.hid (HB4.out.trans (hb5.mono HB4.out.size))
  have HI15 := Lib.hid (HI1.out.later hb5)
  have HI25 := Lib.hid hi2
  clear hb5 hi2 HI1 HB4 HO1 HO2
  obtain ⟨d1, m1, f1, rfl⟩ := HI15.out.form
  obtain ⟨d2, m2, f2, rfl⟩ := HI25.out.form
  go_upto_region 6 with fail
  obtain ⟨X, hX⟩ : ∃ X, (w5.alloc (.cells #[.slice d1 m1 f1] TB)).alloc (.cells #[.slice d2 m2 f2] TB) = X := ⟨_, rfl⟩
  have hf9 : Flds X w5.heap.size TB [.slice d1 m1 f1] := by rw [← hX]; exact (Flds.new w5 TB [.slice d1 m1 f1]).alloc _
  have hf10 : Flds X (w5.heap.size + 1) TB [.slice d2 m2 f2] := by rw [← hX]; have := Flds.new (w5.alloc (.cells #[.slice d1 m1 f1] TB)) TB [.slice d2 m2 f2]; rw [World.size_alloc] at this; exact this
  have hbX : Below w5.heap.size w5 X := by rw [← hX]; exact ((Below.refl _ _).alloc (Nat.le_refl _) _).alloc (by simp) _
  rw [hX]
  have hb3X := HB5.out.trans (hbX.mono HB5.out.size)
  obtain ⟨e1, e2, e3, e4, e5, e6, e7, e8⟩ := HT12.out.later hb3X
  obtain ⟨z1, z2, z3, z4, z5, z6, z7, z8⟩ := HT2.out.later hb3X
  have HCT : Hid (Ctx9 w5.heap.size (w5.heap.size + 1) n1 n2 (.slice d1 m1 f1) (.slice d2 m2 f2) (.slice p1 n1 q1) (.slice p2 n2 q2) rb1 rb2 l1 l2 X) := Lib.hid ⟨hf9, hf10, HI15.out.later hbX, HI25.out.later hbX, Row.of_owns e6, Row.of_owns z6, e8.zero, z8.zero⟩
  have HG1 : Hid (∀ l ∈ l1, Goods l ∧ l.length ≤ 4) := Lib.hid e2
  have HG2 : Hid (∀ l ∈ l2, Goods l ∧ l.length ≤ 4) := Lib.hid z2
  have HBX := Lib.hid (HB3.out.trans (hb3X.mono HB3.out.size))
  clear e1 e2 e3 e4 e5 e6 e7 e8 z1 z2 z3 z4 z5 z6 z7 z8 hf9 hf10 hbX hX hb3X HT12 HT2 HI15 HI25 HB5 HB3
  generalize w5.heap.size + 1 = g10 at *
  generalize w5.heap.size = g9 at *
  have hbe := below_alloc1 X (.cells #[] 35)
  have hown : (X.alloc (.cells #[] 35)).ownsRow X.heap.size 35 1 (.slice (some ⟨X.heap.size, 0, none⟩) 0 0) 0 [] := owns_of_flds (Flds.new X 35 []) rfl (Nat.le_refl _) (by simp [maxLen])
  have hsz : (X.alloc (.cells #[] 35)).heap.size = X.heap.size + 1 := World.size_alloc _ _
  have hcE := HCT.out.later hbe
  obtain ⟨a6, c6, w6, hrun1, ho6, hb6, hr6⟩ := apQ_rows (n := 0) (m := n1) (us := []) (ls := []) (by decide) (by omega) hown (by rw [hsz]; omega) (RwT.nil TR 0 _) hcE.rp hcE.tp
  rw [Nat.zero_add] at hrun1 ho6
  rw [List.nil_append] at ho6 hr6
  rw [List.nil_append] at hr6
  have hbX6 : Below X.heap.size X w6 := hbe.trans hb6
  have hc6 := HCT.out.later hbX6
  obtain ⟨a7, c7, w7, hrun2, ho7, hb7, hr7⟩ := apQ_rows (n := n1) (m := n2) (by omega) (by omega) ho6 hbX6.size hr6 hc6.rq hc6.tq
  have HO7 := Lib.hid ho7
  have HR7 := Lib.hid hr7
  have HB7 := Lib.hid (hbX6.trans hb7)
  clear hbe hown hsz hcE ho6 hb6 hr6 hbX6 hc6 ho7 hb7 hr7
  have HC7 := Lib.hid (HCT.out.later HB7.out)
  have hr1 : rb1.length = n1 := by rw [HC7.out.tp.1, HN1.out]
  have HSO : Hid (Calls Try.prog 9 #[.slice p1 n1 q1] w7 (SortPost n1 l1 w7)) := Lib.hid (by
    have := refsort_any (.slice p1 n1 q1) rb1 l1 (by omega) (fun l hl => (HG1.out l hl).1) (fun l hl => by have := (HG1.out l hl).2; omega) w7 (by rw [hr1]; exact HC7.out.rp) HC7.out.tp.rws
    rw [hr1] at this; exact this)
  clear hr1
  go_wp2_with fail
  (with_reducible refine HSO.out.mono ?_); rintro e w8 ⟨sa, sc, vs, ms, rfl, hvl, hrow, hrw, hpe, hso, hb8⟩
  have HGM : Hid (∀ l ∈ ms, Goods l ∧ l.length ≤ 4) := Lib.hid (fun l hl => HG1.out l (hpe.mem_iff.1 hl))
  have HML : Hid (ms.length = n1) := Lib.hid (by rw [hpe.length_eq, HN1.out])
  have HC8 := Lib.hid (HC7.out.later hb8)
  have HO8 := Lib.hid (Row.of_owns (owns_below HO7.out hb8))
  have HR8 := Lib.hid (HR7.out.later hb8)
  have HB8 := Lib.hid (HB7.out.trans (hb8.mono HB7.out.size))
  have HRO := Lib.hid hrow
  have HRW := Lib.hid hrw
  have HVL := Lib.hid hvl
  have HPE := Lib.hid hpe
  have HSL := Lib.hid hso
  clear hvl hrow hrw hpe hso hb8 hrun1 hrun2 HO7 HR7 HB7 HC7 HCT HSO HN1
  have mixed : Try.prog.follows .mixedOrders = true := by kernel_rfl
  go_wp2_with fail
  go_loopw [12, 14] (fun sv i wr => ∃ (k m : Nat) (ao : Option Addr) (co : Nat) (us : List Value) (dd : List (List V)), sv = .slice ao m co ∧ i = .int .i64 (k : Int) ∧ k ≤ n1 ∧ m ≤ k ∧ Hid (us.length = m ∧ Dd ms k dd ∧ wr.ownsRow w8.heap.size 35 1 (.slice ao m co) m us ∧ Rws w8 us dd) ∧ Hid (Below w8.heap.size w8 wr)) (fun _ i _ => n1 - (intOf i).toNat)
  case atStart => exact ⟨0, 0, none, 0, [], [], rfl, rfl, Nat.zero_le _, Nat.le_refl _, Lib.hid ⟨rfl, Dd.zero _, World.ownsRow_nil _ _ _ _, Rws.nil _⟩, Lib.hid (Below.refl _ _)⟩
  case round =>
    obtain ⟨k, m, ao, co, us, dd, rfl, rfl, hk, hm, HU, HB⟩ := hrel
    have hd0 : (0 : Int) ≤ (k : Int) := by omega
    by_cases hkn : k < n1
    · have dk : (k : Int) < (n1 : Int) := by omega
      have hkv : k < vs.length := by rw [HVL.out]; exact hkn
      have hkm : k < ms.length := by rw [HML.out]; exact hkn
      obtain ⟨b, off, cap', ea, hcs⟩ := (HRO.out.later HB.out).pos (by omega)
      simp only [Value.slice.injEq] at ea
      obtain ⟨rfl, -, rfl⟩ := ea
      have r1 := HRW.out.2 k _ _ (List.getElem?_eq_getElem hkv) (List.getElem?_eq_getElem hkm)
      have q1 := (hcs k (by omega)).trans (List.getElem?_eq_getElem hkv)
      have hmr := List.getElem?_eq_getElem hkm
      have HMORE := Lib.hid (fun hne => HU.out.2.1.more (fun l hl => (HGM.out l hl).1) HSL.out hkm hne)
      have HRWS := Lib.hid (HU.out.2.2.2.snoc r1)
      have hg0 := HGM.out _ (List.getElem_mem hkm)
      generalize vs[k] = u1 at *
      generalize ms[k] = r at *
      obtain ⟨x1, y1, rfl, -⟩ := id r1
      -- one more
      have happ : ∀ wx, Below wr.heap.size wr wx → ∃ (a5 : Option Addr) (c5 : Nat) (w5 : World), (apQ #[.slice ao m co, .slice (some ⟨wx.heap.size, 0, none⟩) 1 1]).run Try.prog (wx.alloc (.cells #[.slice x1 r.length y1] 35)) = .ok (.slice a5 (m + 1) c5) w5 ∧ w5.ownsRow w8.heap.size 35 1 (.slice a5 (m + 1) c5) (m + 1) (us ++ [.slice x1 r.length y1]) ∧ Below w8.heap.size wx w5 := fun wx h => apQ_one (by omega) (owns_below HU.out.2.2.1 h) (Nat.le_trans HB.out.size h.size)
      have HAP := Lib.hid happ
      have HUL : Hid ((us ++ [Value.slice x1 r.length y1]).length = m + 1) := Lib.hid (by rw [List.length_append, HU.out.1]; rfl)
      clear happ
      have HQ1 := Lib.hid (fun (W1 : World) (h : Below wr.heap.size wr W1) => cell_later h q1)
      have lb : b < wr.heap.size := World.block_lt_of_cell? wr _ q1
      rcases k with _ | q
      · have HM := HMORE.out (.inl rfl)
        have HM' := Lib.hid HM
        clear HM HMORE hcs r1 hmr hg0
        go_wp2_with fail
        apply ag.region_calm (ag.Spec.val _ :: ag.Spec.val (.bool true) :: ag.Spec.val (.bool true) :: ag.Spec.val undef :: ag.Spec.val undef :: ag.Spec.val undef :: ag.Spec.val undef :: ag.Spec.val undef :: ag.Spec.val undef :: ag.Spec.val undef :: ag.Spec.val undef :: ag.Spec.val undef :: ag.Spec.val undef :: ag.Spec.val undef :: ag.Spec.val (.bool true) :: [])
        case hm => kernel_rfl
        case hB => kernel_rfl
        case hlen => rfl
        case hc => exact trivial
        apply ag.walk_val
        · rfl
        · intro W1 hS hE
          clear hS hE
          unfold ag.does
          go_simp
          first | done | exact ⟨rfl, rfl⟩ | rfl | (exact ⟨by go_num, rfl⟩) | (simp; done) | trace_state
        simp only [Act.put, List.setIfInBounds_toArray, List.set_cons_zero, List.set_cons_succ]
        apply ag.walk_val
        · rfl
        · intro W1 hS hE
          clear hS hE
          unfold ag.does
          go_simp
          first | done | exact ⟨rfl, rfl⟩ | rfl | (exact ⟨by go_num, rfl⟩) | (simp; done) | trace_state
        simp only [Act.put, List.setIfInBounds_toArray, List.set_cons_zero, List.set_cons_succ]
        apply ag.walk_val
        · rfl
        · intro W1 hS hE
          clear hS hE
          unfold ag.does
          go_simp
          first | done | exact ⟨rfl, rfl⟩ | rfl | (exact ⟨by go_num, rfl⟩) | (simp; done) | trace_state
        simp only [Act.put, List.setIfInBounds_toArray, List.set_cons_zero, List.set_cons_succ]
        refine ag.walk_skip (by rfl) ?_
        simp only [Act.put, List.setIfInBounds_toArray, List.set_cons_zero, List.set_cons_succ]
        refine ag.walk_skip (by rfl) ?_
        simp only [Act.put, List.setIfInBounds_toArray, List.set_cons_zero, List.set_cons_succ]
        refine ag.walk_skip (by rfl) ?_
        simp only [Act.put, List.setIfInBounds_toArray, List.set_cons_zero, List.set_cons_succ]
        refine ag.walk_skip (by rfl) ?_
        simp only [Act.put, List.setIfInBounds_toArray, List.set_cons_zero, List.set_cons_succ]
        refine ag.walk_skip (by rfl) ?_
        simp only [Act.put, List.setIfInBounds_toArray, List.set_cons_zero, List.set_cons_succ]
        refine ag.walk_skip (by rfl) ?_
        simp only [Act.put, List.setIfInBounds_toArray, List.set_cons_zero, List.set_cons_succ]
        refine ag.walk_skip (by rfl) ?_
        simp only [Act.put, List.setIfInBounds_toArray, List.set_cons_zero, List.set_cons_succ]
        refine ag.walk_skip (by rfl) ?_
        simp only [Act.put, List.setIfInBounds_toArray, List.set_cons_zero, List.set_cons_succ]
        refine ag.walk_skip (by rfl) ?_
        simp only [Act.put, List.setIfInBounds_toArray, List.set_cons_zero, List.set_cons_succ]
        refine ag.walk_skip (by rfl) ?_
        simp only [Act.put, List.setIfInBounds_toArray, List.set_cons_zero, List.set_cons_succ]
        refine ag.walk_skip (by rfl) ?_
        simp only [Act.put, List.setIfInBounds_toArray, List.set_cons_zero, List.set_cons_succ]
        apply ag.walk_val
        · rfl
        · intro W1 hS hE
          clear hS hE
          unfold ag.does
          go_simp
          first | done | exact ⟨rfl, rfl⟩ | rfl | (exact ⟨by go_num, rfl⟩) | (simp; done) | trace_state
        simp only [Act.put, List.setIfInBounds_toArray, List.set_cons_zero, List.set_cons_succ]
        refine ag.walk_nil (fun w9 hS hF hP => ?_)
        clear hP
        clear hF
        have q1 := HQ1.out _ hS
        simp only [Nat.add_zero] at q1
        have lb : b < w9.heap.size := Nat.lt_of_lt_of_le lb hS.size
        obtain ⟨a5, c5, w10, hrun, ho5, hb5⟩ := HAP.out w9 hS
        have HO5 := Lib.hid ho5
        have HB5 := Lib.hid (HB.out.trans ((hS.mono HB.out.size).trans hb5))
        clear hS ho5 hb5
        go_wp2_with fail
        go_roundw
        case rel => exact ⟨1, m + 1, a5, c5, us ++ [.slice x1 r.length y1], dd ++ [r], rfl, by go_num, by omega, by omega, Lib.hid ⟨HUL.out, HM'.out, HO5.out, HRWS.out⟩, HB5⟩
        case measure => simp [intOf]; omega
      · have hqv : q < vs.length := by rw [HVL.out]; omega
        have hqm : q < ms.length := by rw [HML.out]; omega
        have r0 := HRW.out.2 q _ _ (List.getElem?_eq_getElem hqv) (List.getElem?_eq_getElem hqm)
        have q0 := (hcs q (by omega)).trans (List.getElem?_eq_getElem hqv)
        have hmq := List.getElem?_eq_getElem hqm
        have hgq := HGM.out _ (List.getElem_mem hqm)
        generalize vs[q] = u0 at *
        generalize ms[q] = rq at *
        obtain ⟨x0, y0, rfl, -⟩ := id r0
        have HQ0 := Lib.hid (fun (W1 : World) (h : Below wr.heap.size wr W1) => cell_later h q0)
        have HSM := Lib.hid (fun (W1 : World) (h : Below wr.heap.size wr W1) => refsame_any (.slice x1 r.length y1) (.slice x0 rq.length y0) r rq hg0.1 hgq.1 (by have := hg0.2; omega) (by have := hgq.2; omega) W1 ((r1.later HB.out).later h) ((r0.later HB.out).later h))
        have hiff := sameB_iff r rq hg0.1 hgq.1
        have HD2 := Lib.hid (fun (h : r = rq) => HU.out.2.1.same (by omega) hkm (by rw [hmr, show q + 1 - 1 = q by omega, hmq, h]))
        have HM2 := Lib.hid (fun (h : r ≠ rq) => HMORE.out (.inr (by rw [show q + 1 - 1 = q by omega, hmr, hmq]; simpa using h)))
        have d0 : (0 : Int) ≤ (q : Int) + 1 := by omega
        have d1 : (q : Int) + 1 < (n1 : Int) := by omega
        have d2 : (0 : Int) ≤ (q : Int) := by omega
        have d3 : (q : Int) < (n1 : Int) := by omega
        have w1q : IntKind.i64.wrap ((q : Int) + 1 - 1) = (q : Int) := by rw [show (q : Int) + 1 - 1 = q by omega]; exact Go.IntWalk.i64_in _ (by omega)
        have w2q : IntKind.i64.wrap (q : Int) = (q : Int) := Go.IntWalk.i64_in _ (by omega)
        have w3q : (q : Int) + 1 - 1 = (q : Int) := by omega
        have e0 : ((q : Int) + 1 == 0) = false := by simp; omega
        clear HMORE hcs r1 r0 hmr hmq hg0 hgq q1 q0
        cases hE : sameB r rq with
        | true =>
          have HDD := Lib.hid (HD2.out (hiff.1 hE))
          rw [hE] at HSM
          clear hiff HM2 HD2 hE
          go_wp2_with fail
          apply ag.region_calm (ag.Spec.val _ :: ag.Spec.val (.bool false) :: ag.Spec.val (.bool false) :: ag.Spec.val _ :: ag.Spec.val _ :: ag.Spec.val _ :: ag.Spec.val _ :: ag.Spec.val _ :: ag.Spec.val _ :: ag.Spec.val _ :: ag.Spec.val _ :: ag.Spec.val _ :: ag.Spec.sat (fun v _ => v = .bool true) ag.grew :: ag.Spec.val (.bool false) :: ag.Spec.val (.bool false) :: [])
          case hm => kernel_rfl
          case hB => kernel_rfl
          case hlen => rfl
          case hc => exact ⟨⟨ag.lasts_eq _, rfl⟩, trivial⟩
          apply ag.walk_val
          · rfl
          · intro W1 hS hE
            clear hS hE
            unfold ag.does
            go_simp
            first | done | exact ⟨rfl, rfl⟩ | rfl | (exact ⟨by go_num, rfl⟩) | (simp; done) | trace_state
          simp only [Act.put, List.setIfInBounds_toArray, List.set_cons_zero, List.set_cons_succ]
          apply ag.walk_val
          · rfl
          · intro W1 hS hE
            clear hS hE
            unfold ag.does
            go_simp
            first | done | exact ⟨rfl, rfl⟩ | rfl | (exact ⟨by go_num, rfl⟩) | (simp; done) | trace_state
          simp only [Act.put, List.setIfInBounds_toArray, List.set_cons_zero, List.set_cons_succ]
          apply ag.walk_val
          · rfl
          · intro W1 hS hE
            clear hS hE
            unfold ag.does
            go_simp
            first | done | exact ⟨rfl, rfl⟩ | rfl | (exact ⟨by go_num, rfl⟩) | (simp; done) | trace_state
          simp only [Act.put, List.setIfInBounds_toArray, List.set_cons_zero, List.set_cons_succ]
          apply ag.walk_val
          · rfl
          · intro W1 hS hE
            clear hS hE
            unfold ag.does
            go_simp
            first | done | exact ⟨rfl, rfl⟩ | rfl | (exact ⟨by go_num, rfl⟩) | (simp; done) | trace_state
          simp only [Act.put, List.setIfInBounds_toArray, List.set_cons_zero, List.set_cons_succ]
          apply ag.walk_val
          · rfl
          · intro W1 hS hE
            clear hS hE
            unfold ag.does
            go_simp
            first | done | exact ⟨rfl, rfl⟩ | rfl | (exact ⟨by go_num, rfl⟩) | (simp; done) | trace_state
          simp only [Act.put, List.setIfInBounds_toArray, List.set_cons_zero, List.set_cons_succ]
          apply ag.walk_val
          · rfl
          · intro W1 hS hE
            clear hS hE
            unfold ag.does
            go_simp
            first | done | exact ⟨rfl, rfl⟩ | rfl | (exact ⟨by go_num, rfl⟩) | (simp; done) | trace_state
          simp only [Act.put, List.setIfInBounds_toArray, List.set_cons_zero, List.set_cons_succ]
          apply ag.walk_val
          · rfl
          · intro W1 hS hE
            have k1 := HQ1.out W1 hS
            clear hS hE
            unfold ag.does
            go_simp
            first | done | exact ⟨rfl, rfl⟩ | rfl | (exact ⟨by go_num, rfl⟩) | (simp; done) | trace_state
          simp only [Act.put, List.setIfInBounds_toArray, List.set_cons_zero, List.set_cons_succ]
          apply ag.walk_val
          · rfl
          · intro W1 hS hE
            clear hS hE
            unfold ag.does
            go_simp
            first | done | exact ⟨rfl, rfl⟩ | rfl | (exact ⟨by go_num, rfl⟩) | (simp; done) | trace_state
          simp only [Act.put, List.setIfInBounds_toArray, List.set_cons_zero, List.set_cons_succ]
          apply ag.walk_val
          · rfl
          · intro W1 hS hE
            clear hS hE
            unfold ag.does
            go_simp
            first | done | exact ⟨rfl, rfl⟩ | rfl | (exact ⟨by go_num, rfl⟩) | (simp; done) | trace_state
          simp only [Act.put, List.setIfInBounds_toArray, List.set_cons_zero, List.set_cons_succ]
          apply ag.walk_val
          · rfl
          · intro W1 hS hE
            clear hS hE
            unfold ag.does
            go_simp
            first | done | exact ⟨rfl, rfl⟩ | rfl | (exact ⟨by go_num, rfl⟩) | (simp; done) | trace_state
          simp only [Act.put, List.setIfInBounds_toArray, List.set_cons_zero, List.set_cons_succ]
          apply ag.walk_val
          · rfl
          · intro W1 hS hE
            clear hS hE
            unfold ag.does
            go_simp
            first | done | exact ⟨rfl, rfl⟩ | rfl | (exact ⟨by go_num, rfl⟩) | (simp; done) | trace_state
          simp only [Act.put, List.setIfInBounds_toArray, List.set_cons_zero, List.set_cons_succ]
          apply ag.walk_val
          · rfl
          · intro W1 hS hE
            have k1 := HQ0.out W1 hS
            clear hS hE
            unfold ag.does
            go_simp
            first | done | exact ⟨rfl, rfl⟩ | rfl | (exact ⟨by go_num, rfl⟩) | (simp; done) | trace_state
          simp only [Act.put, List.setIfInBounds_toArray, List.set_cons_zero, List.set_cons_succ]
          refine ag.walk_such (by rfl) (fun W1 hS hE => ?_) (fun y12 => ?_)
          · clear hE
            have hk := HSM.out W1 hS
            unfold ag.does
            go_simp
            first | done | (refine hk.mono ?_; rintro e W2 ⟨rfl, hb⟩; exact ⟨_, rfl, rfl, hb⟩)
          simp only [Act.put, List.setIfInBounds_toArray, List.set_cons_zero, List.set_cons_succ]
          apply ag.walk_val
          · rfl
          · intro W1 hS hE
            have h1 : y12 = .bool true := hE.of 12 (by kernel_rfl)
            subst h1
            clear hS hE
            unfold ag.does
            go_simp
            first | done | exact ⟨rfl, rfl⟩ | rfl | (exact ⟨by go_num, rfl⟩) | (simp; done) | trace_state
          simp only [Act.put, List.setIfInBounds_toArray, List.set_cons_zero, List.set_cons_succ]
          apply ag.walk_val
          · rfl
          · intro W1 hS hE
            clear hS hE
            unfold ag.does
            go_simp
            first | done | exact ⟨rfl, rfl⟩ | rfl | (exact ⟨by go_num, rfl⟩) | (simp; done) | trace_state
          simp only [Act.put, List.setIfInBounds_toArray, List.set_cons_zero, List.set_cons_succ]
          refine ag.walk_nil (fun w9 hS hF hP => ?_)
          clear hP
          clear hF
          have HB9 := Lib.hid (HB.out.trans (hS.mono HB.out.size))
          have HS9 := Lib.hid hS
          clear hS
          go_wp2_with fail
          go_roundw
          case rel => exact ⟨q + 1 + 1, m, ao, co, us, dd, rfl, by go_num, by omega, by omega, Lib.hid ⟨HU.out.1, HDD.out, owns_below HU.out.2.2.1 HS9.out, HU.out.2.2.2⟩, HB9⟩
          case measure => simp [intOf]; omega
        | false =>
          have HDD := Lib.hid (HM2.out (fun h => by rw [hiff.2 h] at hE; cases hE))
          rw [hE] at HSM
          clear hiff HM2 HD2 hE
          go_wp2_with fail
          apply ag.region_calm (ag.Spec.val _ :: ag.Spec.val (.bool false) :: ag.Spec.val (.bool false) :: ag.Spec.val _ :: ag.Spec.val _ :: ag.Spec.val _ :: ag.Spec.val _ :: ag.Spec.val _ :: ag.Spec.val _ :: ag.Spec.val _ :: ag.Spec.val _ :: ag.Spec.val _ :: ag.Spec.sat (fun v _ => v = .bool false) ag.grew :: ag.Spec.val (.bool true) :: ag.Spec.val (.bool true) :: [])
          case hm => kernel_rfl
          case hB => kernel_rfl
          case hlen => rfl
          case hc => exact ⟨⟨ag.lasts_eq _, rfl⟩, trivial⟩
          apply ag.walk_val
          · rfl
          · intro W1 hS hE
            clear hS hE
            unfold ag.does
            go_simp
            first | done | exact ⟨rfl, rfl⟩ | rfl | (exact ⟨by go_num, rfl⟩) | (simp; done) | trace_state
          simp only [Act.put, List.setIfInBounds_toArray, List.set_cons_zero, List.set_cons_succ]
          apply ag.walk_val
          · rfl
          · intro W1 hS hE
            clear hS hE
            unfold ag.does
            go_simp
            first | done | exact ⟨rfl, rfl⟩ | rfl | (exact ⟨by go_num, rfl⟩) | (simp; done) | trace_state
          simp only [Act.put, List.setIfInBounds_toArray, List.set_cons_zero, List.set_cons_succ]
          apply ag.walk_val
          · rfl
          · intro W1 hS hE
            clear hS hE
            unfold ag.does
            go_simp
            first | done | exact ⟨rfl, rfl⟩ | rfl | (exact ⟨by go_num, rfl⟩) | (simp; done) | trace_state
          simp only [Act.put, List.setIfInBounds_toArray, List.set_cons_zero, List.set_cons_succ]
          apply ag.walk_val
          · rfl
          · intro W1 hS hE
            clear hS hE
            unfold ag.does
            go_simp
            first | done | exact ⟨rfl, rfl⟩ | rfl | (exact ⟨by go_num, rfl⟩) | (simp; done) | trace_state
          simp only [Act.put, List.setIfInBounds_toArray, List.set_cons_zero, List.set_cons_succ]
          apply ag.walk_val
          · rfl
          · intro W1 hS hE
            clear hS hE
            unfold ag.does
            go_simp
            first | done | exact ⟨rfl, rfl⟩ | rfl | (exact ⟨by go_num, rfl⟩) | (simp; done) | trace_state
          simp only [Act.put, List.setIfInBounds_toArray, List.set_cons_zero, List.set_cons_succ]
          apply ag.walk_val
          · rfl
          · intro W1 hS hE
            clear hS hE
            unfold ag.does
            go_simp
            first | done | exact ⟨rfl, rfl⟩ | rfl | (exact ⟨by go_num, rfl⟩) | (simp; done) | trace_state
          simp only [Act.put, List.setIfInBounds_toArray, List.set_cons_zero, List.set_cons_succ]
          apply ag.walk_val
          · rfl
          · intro W1 hS hE
            have k1 := HQ1.out W1 hS
            clear hS hE
            unfold ag.does
            go_simp
            first | done | exact ⟨rfl, rfl⟩ | rfl | (exact ⟨by go_num, rfl⟩) | (simp; done) | trace_state
          simp only [Act.put, List.setIfInBounds_toArray, List.set_cons_zero, List.set_cons_succ]
          apply ag.walk_val
          · rfl
          · intro W1 hS hE
            clear hS hE
            unfold ag.does
            go_simp
            first | done | exact ⟨rfl, rfl⟩ | rfl | (exact ⟨by go_num, rfl⟩) | (simp; done) | trace_state
          simp only [Act.put, List.setIfInBounds_toArray, List.set_cons_zero, List.set_cons_succ]
          apply ag.walk_val
          · rfl
          · intro W1 hS hE
            clear hS hE
            unfold ag.does
            go_simp
            first | done | exact ⟨rfl, rfl⟩ | rfl | (exact ⟨by go_num, rfl⟩) | (simp; done) | trace_state
          simp only [Act.put, List.setIfInBounds_toArray, List.set_cons_zero, List.set_cons_succ]
          apply ag.walk_val
          · rfl
          · intro W1 hS hE
            clear hS hE
            unfold ag.does
            go_simp
            first | done | exact ⟨rfl, rfl⟩ | rfl | (exact ⟨by go_num, rfl⟩) | (simp; done) | trace_state
          simp only [Act.put, List.setIfInBounds_toArray, List.set_cons_zero, List.set_cons_succ]
          apply ag.walk_val
          · rfl
          · intro W1 hS hE
            clear hS hE
            unfold ag.does
            go_simp
            first | done | exact ⟨rfl, rfl⟩ | rfl | (exact ⟨by go_num, rfl⟩) | (simp; done) | trace_state
          simp only [Act.put, List.setIfInBounds_toArray, List.set_cons_zero, List.set_cons_succ]
          apply ag.walk_val
          · rfl
          · intro W1 hS hE
            have k1 := HQ0.out W1 hS
            clear hS hE
            unfold ag.does
            go_simp
            first | done | exact ⟨rfl, rfl⟩ | rfl | (exact ⟨by go_num, rfl⟩) | (simp; done) | trace_state
          simp only [Act.put, List.setIfInBounds_toArray, List.set_cons_zero, List.set_cons_succ]
          refine ag.walk_such (by rfl) (fun W1 hS hE => ?_) (fun y12 => ?_)
          · clear hE
            have hk := HSM.out W1 hS
            unfold ag.does
            go_simp
            first | done | (refine hk.mono ?_; rintro e W2 ⟨rfl, hb⟩; exact ⟨_, rfl, rfl, hb⟩)
          simp only [Act.put, List.setIfInBounds_toArray, List.set_cons_zero, List.set_cons_succ]
          apply ag.walk_val
          · rfl
          · intro W1 hS hE
            have h1 : y12 = .bool false := hE.of 12 (by kernel_rfl)
            subst h1
            clear hS hE
            unfold ag.does
            go_simp
            first | done | exact ⟨rfl, rfl⟩ | rfl | (exact ⟨by go_num, rfl⟩) | (simp; done) | trace_state
          simp only [Act.put, List.setIfInBounds_toArray, List.set_cons_zero, List.set_cons_succ]
          apply ag.walk_val
          · rfl
          · intro W1 hS hE
            clear hS hE
            unfold ag.does
            go_simp
            first | done | exact ⟨rfl, rfl⟩ | rfl | (exact ⟨by go_num, rfl⟩) | (simp; done) | trace_state
          simp only [Act.put, List.setIfInBounds_toArray, List.set_cons_zero, List.set_cons_succ]
          refine ag.walk_nil (fun w9 hS hF hP => ?_)
          clear hP
          clear hF
          have q1 := HQ1.out _ hS
          have lb : b < w9.heap.size := Nat.lt_of_lt_of_le lb hS.size
          obtain ⟨a5, c5, w10, hrun, ho5, hb5⟩ := HAP.out w9 hS
          have HO5 := Lib.hid ho5
          have HB5 := Lib.hid (HB.out.trans ((hS.mono HB.out.size).trans hb5))
          clear hS ho5 hb5
          go_wp2_with fail
          go_roundw
          case rel => exact ⟨q + 1 + 1, m + 1, a5, c5, us ++ [.slice x1 r.length y1], dd ++ [r], rfl, by go_num, by omega, by omega, Lib.hid ⟨HUL.out, HDD.out, HO5.out, HRWS.out⟩, HB5⟩
          case measure => simp [intOf]; omega
    · have dk : ¬ (k : Int) < (n1 : Int) := by omega
      obtain rfl : n1 = k := by omega
      obtain ⟨Y, rfl⟩ : ∃ Y, Y = wr := ⟨_, rfl⟩
      have HCY := Lib.hid (HC8.out.later HB.out)
      have HOY := Lib.hid (HO8.out.later HB.out)
      have HRY := Lib.hid (HR8.out.later HB.out)
      have HUR : Hid (Row Y (.slice ao m co) 1 m us ∧ us.length = m ∧ Rws Y us dd ∧ Dd ms n1 dd) := Lib.hid ⟨Row.of_owns HU.out.2.2.1, HU.out.1, HU.out.2.2.2.later HB.out, HU.out.2.1⟩
      have HBY := Lib.hid (HBX.out.trans ((HB8.out.trans (HB.out.mono HB8.out.size)).mono HBX.out.size))
      clear HU HB HB8 HO8 HR8 HC8 HRO HRW HVL HBX dk hkn
      obtain ⟨s, o, es, hbo, hco, hto⟩ := HCY.out.bx
      obtain ⟨s', o', es', hbp, hcp, htp⟩ := HCY.out.bY
      simp only [Value.agg.injEq, Array.mk.injEq, List.cons.injEq, and_true] at es es'
      subst es es'
      have hex : expB o = ms := exp_of_sorted (fun l hl => (HGM.out l hl).1) HSL.out hbo.strict (fun r => by rw [hco, once_cnt_perm HPE.out.symm])
      obtain ⟨ns, hnp, hns⟩ := exists_sorted l2
      have hgn : ∀ l ∈ ns, Goods l ∧ l.length ≤ 4 := fun l hl => HG2.out l (hnp.mem_iff.1 hl)
      have hex' : expB o' = ns := exp_of_sorted (fun l hl => (hgn l hl).1) hns hbp.strict (fun r => by rw [hcp, once_cnt_perm hnp.symm])
      have hr1 : rb1.length = n1 := by rw [HCY.out.tp.1, ← hto, ← expB_len, hex, ← HPE.out.length_eq, HML.out]
      obtain ⟨K1, hK1⟩ : ∃ K : ByteArray, (⟨(packB (ms.map kB)).toArray⟩ : ByteArray) = K := ⟨_, rfl⟩
      obtain ⟨K2, hK2⟩ : ∃ K : ByteArray, (⟨(packB (ns.map kB)).toArray⟩ : ByteArray) = K := ⟨_, rfl⟩
      have hr2 : rb2.length = n2 := by rw [HCY.out.tq.1, HN2.out]
      have hkk : keysB o = ms.map kB := by rw [keysB_exp, hex]
      have hps := packB_small ms HGM.out
      rw [HML.out] at hps
      have HKEY : Hid (∀ W1, Below Y.heap.size Y W1 → Calls Try.prog 12 #[.agg #[.slice d1 m1 f1]] W1 fun e w' => e = .returned (.string K1) ∧ Below W1.heap.size W1 w') := Lib.hid (fun W1 h => by
        have := bagkey_room (.agg #[.slice d1 m1 f1]) o (by rw [hto]; omega) (by rw [hkk]; omega) W1 (hbo.later h)
        rw [hkk, hK1] at this
        exact this)
      have hsplit : splitS K1 = (ms.map kB, true) := by
        rw [← hK1]
        refine splitS_packB _ fun s hs => ?_
        obtain ⟨l, hl, rfl⟩ := List.mem_map.1 hs
        exact kB_size (HGM.out l hl)
      have HGET : Hid (∀ W1, Calls Try.prog 11 #[.string K1] W1 fun e w' => ∃ bv, e = .returned (.tuple #[bv, .int .i64 0]) ∧ ∃ o2, IsBag w' bv o2 ∧ (∀ r, cnt o2 r = cnt (once l1) r) ∧ total o2 = n1 ∧ Below W1.heap.size W1 w') := Lib.hid (fun W1 => by
        refine (bagget_any K1 (by rw [← hK1]; show (packB (ms.map kB)).toArray.size ≤ _; rw [List.size_toArray]; omega) W1).mono ?_
        rintro e w' ⟨bv, er, rfl, o2, h1, h2, h3⟩
        have h4 := h2.good hsplit (fun x hx => by obtain ⟨l, hl, rfl⟩ := List.mem_map.1 hx; exact errR_key (HGM.out l hl).1) (keyRows_kB (fun l hl => (HGM.out l hl).1))
        rcases h4 with ⟨h5, -⟩ | ⟨-, h5, h6, h7⟩
        · exact absurd (sorted_adj HSL.out) h5
        · subst h5
          exact ⟨bv, rfl, o2, h1, fun r => by rw [h6, once_cnt_perm HPE.out], by rw [h7, HML.out], h3⟩)
      have HSAMEX : Hid (∀ W1, Below Y.heap.size Y W1 → Calls Try.prog 13 #[.agg #[.slice d1 m1 f1], .slice p1 n1 q1] W1 fun e w' => e = .returned (.bool true) ∧ Below W1.heap.size W1 w') := Lib.hid (fun W1 h =>
        same8_any _ _ o rb1 l1 (by rw [hr1]; omega) HG1.out W1 (hbo.later h) hco (by rw [hr1]; exact HCY.out.rp.later h) (HCY.out.tp.later h).rws)
      have HPLUS : Hid (∀ W1, Below Y.heap.size Y W1 → Calls Try.prog 14 #[.slice (some ⟨W1.heap.size, 0, none⟩) 2 2] (W1.alloc (.cells #[.slice d1 m1 f1, .slice d2 m2 f2] TB)) fun e w' => ∃ b, e = .returned b ∧ IsB (fun r => cnt (once l1) r + cnt (once l2) r) (n1 + n2) b w' ∧ Below W1.heap.size W1 w') := Lib.hid (fun W1 h => by
        refine (plus_isB (by decide) (by omega) (manyB2 TB (HCY.out.bx.later h) (HCY.out.bY.later h))).mono ?_
        rintro e w' ⟨b, rfl, h1, h2⟩
        exact ⟨b, rfl, h1, (below_alloc1 _ _).trans (h2.mono (by rw [World.size_alloc]; omega))⟩)
      have HSAMEP : Hid (∀ W1 b, Below Y.heap.size Y W1 → IsB (fun r => cnt (once l1) r + cnt (once l2) r) (n1 + n2) b W1 → Calls Try.prog 13 #[b, .slice a7 (n1 + n2) c7] W1 fun e w' => e = .returned (.bool true) ∧ Below W1.heap.size W1 w') := Lib.hid (fun W1 b h hb => by
        obtain ⟨s, oo, rfl, h1, h2, h3⟩ := hb
        have hl : (rb1 ++ rb2).length = n1 + n2 := by rw [List.length_append, hr1, hr2]
        exact same8_any _ _ oo (rb1 ++ rb2) (l1 ++ l2) (by rw [hl]; omega) (fun l hl => by
          rcases List.mem_append.1 hl with hl | hl
          · exact HG1.out l hl
          · exact HG2.out l hl) W1 h1 (fun r => by rw [h2]; unfold once; rw [List.map_append, cnt_append]) (by rw [hl]; exact HOY.out.later h) (HRY.out.later h).rws)
      have HPNIL : Hid (∀ W1, Calls Try.prog 14 #[.slice none 0 0] W1 fun e w' => ∃ b, e = .returned b ∧ IsB (fun _ => 0) 0 b w' ∧ Below W1.heap.size W1 w') := Lib.hid (fun W1 =>
        plus_isB (n := 0) (by decide) (by decide) ⟨[], [], rfl, ⟨none, 0, rfl, rfl, .inl rfl⟩, ⟨rfl, fun j b o h => by simp at h⟩, fun r => rfl, rfl⟩)
      have HSNIL : Hid (∀ W1 b, IsB (fun _ => 0) 0 b W1 → Calls Try.prog 13 #[b, .slice none 0 0] W1 fun e w' => e = .returned (.bool true) ∧ Below W1.heap.size W1 w') := Lib.hid (fun W1 b hb => by
        obtain ⟨s, oo, rfl, h1, h2, h3⟩ := hb
        exact same8_any _ _ oo [] [] (by simp) (fun l hl => by cases hl) W1 h1 h2 ⟨none, 0, rfl, rfl, .inl rfl⟩ (Rws.nil _))
      have HDIS : Hid (∀ W1, Below Y.heap.size Y W1 → Calls Try.prog 15 #[.agg #[.slice d1 m1 f1]] W1 fun e w' => ∃ v, e = .returned v ∧ IsBag w' v (ones o) ∧ Below W1.heap.size W1 w') := Lib.hid (fun W1 h => distinct_any _ o (by have := hbo.strict.len; rw [hto] at this; omega) W1 (hbo.later h))
      have HSD : Hid (∀ W1 b, Below Y.heap.size Y W1 → IsBag W1 b (ones o) → Calls Try.prog 13 #[b, .slice ao m co] W1 fun e w' => e = .returned (.bool true) ∧ Below W1.heap.size W1 w') := Lib.hid (fun W1 b h hb => by
        obtain ⟨u1, u2, u3, u4⟩ := HUR.out
        have hone : once dd = ones o := Dd.ones (by rw [HML.out]; exact u4) hbo.strict (fun r => by rw [hco, once_cnt_perm HPE.out.symm])
        exact same8_any _ _ (ones o) us dd (by rw [u2]; omega) (fun l hl => HGM.out l (u4.mem l hl)) W1 hb (fun r => by rw [hone]) (by rw [u2]; exact u1.later h) (u3.later h))
      have HSB : Hid (∀ W1 b o2, Below Y.heap.size Y W1 → IsBag W1 b o2 → (∀ r, cnt o2 r = cnt (once l1) r) → total o2 = n1 → Calls Try.prog 16 #[b, .agg #[.slice d1 m1 f1]] W1 fun e w' => e = .returned (.bool true) ∧ Below W1.heap.size W1 w') := Lib.hid (fun W1 b o2 h hb hc ht => by
        refine (same_isB (f := cnt (once l1)) (g := cnt (once l1)) (t := n1) (u := n1) (by omega) (by omega) (IsB.of hb hc ht) (HCY.out.bx.later h) (fun _ => rfl)).mono ?_
        rintro e w' ⟨v, rfl, rfl, h⟩
        exact ⟨rfl, h⟩)
      have HSXY : Hid (∀ W1, Below Y.heap.size Y W1 → Calls Try.prog 16 #[.agg #[.slice d1 m1 f1], .agg #[.slice d2 m2 f2]] W1 fun e w' => e = .returned (.bool (eqB o o')) ∧ Below W1.heap.size W1 w') := Lib.hid (fun W1 h =>
        same_any _ _ o o' (by have := hbo.strict.len; rw [hto] at this; omega) (by have := hbp.strict.len; rw [htp] at this; omega) W1 (hbo.later h) (hbp.later h))
      have HKP : Hid (∀ W1, Below Y.heap.size Y W1 → Calls Try.prog 17 #[.slice p1 n1 q1] W1 fun e w' => e = .returned (.string K1) ∧ Below W1.heap.size W1 w') := Lib.hid (fun W1 h => by
        have := key8_any (.slice p1 n1 q1) rb1 l1 ms (by rw [hr1]; omega) HG1.out W1 (by rw [hr1]; exact HCY.out.rp.later h) (HCY.out.tp.later h).rws HPE.out HSL.out
        rw [hK1] at this; exact this)
      have HKQ : Hid (∀ W1, Below Y.heap.size Y W1 → Calls Try.prog 17 #[.slice p2 n2 q2] W1 fun e w' => e = .returned (.string K2) ∧ Below W1.heap.size W1 w') := Lib.hid (fun W1 h => by
        have := key8_any (.slice p2 n2 q2) rb2 l2 ns (by rw [hr2]; omega) HG2.out W1 (by rw [hr2]; exact HCY.out.rq.later h) (HCY.out.tq.later h).rws hnp hns
        rw [hK2] at this; exact this)
      have hkeq : K1 = K2 ↔ o = o' := by
        constructor
        · intro h
          have : ms = ns := packB_inj HGM.out hgn (by rw [hK1, hK2, h])
          exact strict_unique o o' hbo.strict hbp.strict (fun r => by rw [hco, hcp, ← once_cnt_perm HPE.out, this, once_cnt_perm hnp])
        · intro h
          rw [← hK1, ← hK2, ← hex, ← hex', h]
      have HKEQ := Lib.hid hkeq
      have HF9 := Lib.hid (fun (W1 : World) (h : Below Y.heap.size Y W1) => (⟨(HCY.out.f9.later h).cell 0, (HCY.out.f10.later h).cell 0⟩ : W1.cell? ⟨g9, 0, none⟩ = some (.slice d1 m1 f1) ∧ W1.cell? ⟨g10, 0, none⟩ = some (.slice d2 m2 f2)))
      clear hbo hbp hco hcp hto htp hex hex' hnp hns hgn hr1 hr2 hkk hps hsplit hK1 hK2 hkeq HCY HOY HRY HUR HML HGM HPE HSL HN2 HG1 HG2 mixed
      obtain ⟨c9, c10⟩ := HF9.out Y (Below.refl _ _)
      go_wp2_with fail
      (with_reducible refine (HKEY.out _ (Below.refl _ _)).mono ?_); rintro e wa ⟨rfl, hba⟩
      have HBA := Lib.hid hba
      clear hba
      go_wp2_with fail
      (with_reducible refine (HGET.out _).mono ?_); rintro e wb ⟨bv, rfl, o2, hb2, hc2, ht2, hbb⟩
      have HBB := Lib.hid (HBA.out.trans (hbb.mono HBA.out.size))
      obtain ⟨s2, rfl⟩ := isBag_agg hb2
      obtain ⟨d3, m3, f3, hs3⟩ : ∃ x m y, s2 = .slice x m y := by
        obtain ⟨a5, c5, xs5, e5, -⟩ := hb2
        simp only [Value.agg.injEq, Array.mk.injEq, List.cons.injEq, and_true] at e5
        exact ⟨_, _, _, e5⟩
      subst hs3
      have HB2 := Lib.hid hb2; have HC2 := Lib.hid hc2; have HT2 := Lib.hid ht2
      clear hbb hb2 hc2 ht2 HBA HKEY HGET c9 c10
      go_upto_region 15 with fail
      obtain ⟨Z, hZ⟩ : ∃ Z, wb.alloc (.cells #[.slice d3 m3 f3] TB) = Z := ⟨_, rfl⟩
      have hf15 : Flds Z wb.heap.size TB [.slice d3 m3 f3] := by rw [← hZ]; exact Flds.new wb TB [.slice d3 m3 f3]
      have hbZ : Below wb.heap.size wb Z := by rw [← hZ]; exact below_alloc1 _ _
      rw [hZ]
      have HYZ := Lib.hid (HBB.out.trans (hbZ.mono HBB.out.size))
      have HB2Z := Lib.hid (HB2.out.later hbZ)
      clear hZ hbZ HB2
      generalize wb.heap.size = g15 at *
      have HF15 := Lib.hid hf15
      clear hf15 HBB
      have HCL := Lib.hid (fun (W1 : World) (h : Below Z.heap.size Z W1) => (⟨(HF9.out W1 (HYZ.out.trans (h.mono HYZ.out.size))).1, (HF9.out W1 (HYZ.out.trans (h.mono HYZ.out.size))).2, (HF15.out.later h).cell 0⟩ : W1.cell? ⟨g9, 0, none⟩ = some (.slice d1 m1 f1) ∧ W1.cell? ⟨g10, 0, none⟩ = some (.slice d2 m2 f2) ∧ W1.cell? ⟨g15, 0, none⟩ = some (.slice d3 m3 f3)))
      clear HF9 HF15
      have HBz := Lib.hid (Below.refl Z.heap.size Z)
      have HYz := Lib.hid HYZ.out
      obtain ⟨c9, c10, c15⟩ := HCL.out Z HBz.out
      go_wp2_with fail
      (with_reducible refine (HSAMEX.out _ HYz.out).mono ?_); rintro e wc ⟨rfl, hbc⟩
      have HBc := Lib.hid (HBz.out.trans (hbc.mono HBz.out.size))
      have HYc := Lib.hid (HYZ.out.trans (HBc.out.mono HYZ.out.size))
      obtain ⟨c9, c10, c15⟩ := HCL.out wc HBc.out
      clear hbc
      go_wp2_with fail
      (with_reducible refine (HPLUS.out _ HYc.out).mono ?_); rintro e wd ⟨bp, rfl, hip, hbd⟩
      have HBd := Lib.hid (HBc.out.trans (hbd.mono HBc.out.size))
      have HYd := Lib.hid (HYZ.out.trans (HBd.out.mono HYZ.out.size))
      obtain ⟨c9, c10, c15⟩ := HCL.out wd HBd.out
      have HIP := Lib.hid hip
      clear hbd
      obtain ⟨t1, t2, t3, rfl⟩ := HIP.out.form
      go_wp2_with fail
      (with_reducible refine (HSAMEP.out _ _ HYd.out HIP.out).mono ?_); rintro e we ⟨rfl, hbe⟩
      have HBe := Lib.hid (HBd.out.trans (hbe.mono HBd.out.size))
      have HYe := Lib.hid (HYZ.out.trans (HBe.out.mono HYZ.out.size))
      obtain ⟨c9, c10, c15⟩ := HCL.out we HBe.out
      clear hbe
      go_wp2_with fail
      (with_reducible refine (HPNIL.out _).mono ?_); rintro e wf ⟨bn, rfl, hin, hbf⟩
      have HBf := Lib.hid (HBe.out.trans (hbf.mono HBe.out.size))
      have HYf := Lib.hid (HYZ.out.trans (HBf.out.mono HYZ.out.size))
      obtain ⟨c9, c10, c15⟩ := HCL.out wf HBf.out
      have HIN := Lib.hid hin
      clear hbf
      obtain ⟨t4, t5, t6, rfl⟩ := HIN.out.form
      go_wp2_with fail
      (with_reducible refine (HSNIL.out _ _ HIN.out).mono ?_); rintro e wg ⟨rfl, hbg⟩
      have HBg := Lib.hid (HBf.out.trans (hbg.mono HBf.out.size))
      have HYg := Lib.hid (HYZ.out.trans (HBg.out.mono HYZ.out.size))
      obtain ⟨c9, c10, c15⟩ := HCL.out wg HBg.out
      clear hbg
      go_wp2_with fail
      (with_reducible refine (HDIS.out _ HYg.out).mono ?_); rintro e wh ⟨bd, rfl, hid, hbh⟩
      have HBh := Lib.hid (HBg.out.trans (hbh.mono HBg.out.size))
      have HYh := Lib.hid (HYZ.out.trans (HBh.out.mono HYZ.out.size))
      obtain ⟨c9, c10, c15⟩ := HCL.out wh HBh.out
      have HID := Lib.hid hid
      obtain ⟨sd, rfl⟩ := isBag_agg hid
      clear hbh
      go_wp2_with fail
      (with_reducible refine (HSD.out _ _ HYh.out HID.out).mono ?_); rintro e wi ⟨rfl, hbi⟩
      have HBi := Lib.hid (HBh.out.trans (hbi.mono HBh.out.size))
      have HYi := Lib.hid (HYZ.out.trans (HBi.out.mono HYZ.out.size))
      obtain ⟨c9, c10, c15⟩ := HCL.out wi HBi.out
      clear hbi
      go_wp2_with fail
      (with_reducible refine (HSB.out _ _ o2 HYi.out (HB2Z.out.later HBi.out) HC2.out HT2.out).mono ?_); rintro e wj ⟨rfl, hbj⟩
      have HBj := Lib.hid (HBi.out.trans (hbj.mono HBi.out.size))
      have HYj := Lib.hid (HYZ.out.trans (HBj.out.mono HYZ.out.size))
      obtain ⟨c9, c10, c15⟩ := HCL.out wj HBj.out
      clear hbj
      by_cases hoo : o = o'
      · have hkk := HKEQ.out.2 hoo
        rw [eqB_t hoo] at HSXY
        rw [hkk] at HKP
        clear hkk hoo
        go_wp2_with fail
        (with_reducible refine (HSXY.out _ HYj.out).mono ?_); rintro e wk ⟨rfl, hbk⟩
        have HBk := Lib.hid (HBj.out.trans (hbk.mono HBj.out.size))
        have HYk := Lib.hid (HYZ.out.trans (HBk.out.mono HYZ.out.size))
        obtain ⟨c9, c10, c15⟩ := HCL.out wk HBk.out
        clear hbk
        go_wp2_with fail
        (with_reducible refine (HKP.out _ HYk.out).mono ?_); rintro e wl ⟨rfl, hbl⟩
        have HBl := Lib.hid (HBk.out.trans (hbl.mono HBk.out.size))
        have HYl := Lib.hid (HYZ.out.trans (HBl.out.mono HYZ.out.size))
        obtain ⟨c9, c10, c15⟩ := HCL.out wl HBl.out
        clear hbl
        go_wp2_with fail
        (with_reducible refine (HKQ.out _ HYl.out).mono ?_); rintro e wm ⟨rfl, hbm⟩
        have HBm := Lib.hid (HBl.out.trans (hbm.mono HBl.out.size))
        have HYm := Lib.hid (HYZ.out.trans (HBm.out.mono HYZ.out.size))
        obtain ⟨c9, c10, c15⟩ := HCL.out wm HBm.out
        clear hbm
        go_wp2_with fail
        (with_reducible refine (HSAMEX.out _ HYm.out).mono ?_); rintro e wn ⟨rfl, hbn⟩
        have HBn := Lib.hid (HBm.out.trans (hbn.mono HBm.out.size))
        have HYn := Lib.hid (HYZ.out.trans (HBn.out.mono HYZ.out.size))
        obtain ⟨c9, c10, c15⟩ := HCL.out wn HBn.out
        clear hbn
        have HFI := Lib.hid (HBY.out.trans ((HYn.out).mono HBY.out.size))
        go_wp2_with fail
        go_ret
        exact ⟨rfl, HFI.out⟩
      · have hkk : K1 ≠ K2 := fun h => hoo (HKEQ.out.1 h)
        have hk2 : ¬ K1.toList = K2.toList := fun h => hkk (by rw [Lib.toList_data, Lib.toList_data] at h; exact ByteArray.ext (Array.toList_inj.1 h))
        have hk3 : (K1.toList == K2.toList) = false := by simpa using hk2
        rw [eqB_f hoo] at HSXY
        clear hoo
        go_wp2_with fail
        (with_reducible refine (HSXY.out _ HYj.out).mono ?_); rintro e wk ⟨rfl, hbk⟩
        have HBk := Lib.hid (HBj.out.trans (hbk.mono HBj.out.size))
        have HYk := Lib.hid (HYZ.out.trans (HBk.out.mono HYZ.out.size))
        obtain ⟨c9, c10, c15⟩ := HCL.out wk HBk.out
        clear hbk
        go_wp2_with fail
        (with_reducible refine (HKP.out _ HYk.out).mono ?_); rintro e wl ⟨rfl, hbl⟩
        have HBl := Lib.hid (HBk.out.trans (hbl.mono HBk.out.size))
        have HYl := Lib.hid (HYZ.out.trans (HBl.out.mono HYZ.out.size))
        obtain ⟨c9, c10, c15⟩ := HCL.out wl HBl.out
        clear hbl
        go_wp2_with fail
        (with_reducible refine (HKQ.out _ HYl.out).mono ?_); rintro e wm ⟨rfl, hbm⟩
        have HBm := Lib.hid (HBl.out.trans (hbm.mono HBl.out.size))
        have HYm := Lib.hid (HYZ.out.trans (HBm.out.mono HYZ.out.size))
        obtain ⟨c9, c10, c15⟩ := HCL.out wm HBm.out
        clear hbm
        go_wp2_with fail
        (with_reducible refine (HSAMEX.out _ HYm.out).mono ?_); rintro e wn ⟨rfl, hbn⟩
        have HBn := Lib.hid (HBm.out.trans (hbn.mono HBm.out.size))
        have HYn := Lib.hid (HYZ.out.trans (HBn.out.mono HYZ.out.size))
        obtain ⟨c9, c10, c15⟩ := HCL.out wn HBn.out
        clear hbn
        have HFI := Lib.hid (HBY.out.trans ((HYn.out).mono HBY.out.size))
        go_wp2_with fail
        go_ret
        exact ⟨rfl, HFI.out⟩
end Go.Proofs.Ytpkkhbmlclicfaa.val
