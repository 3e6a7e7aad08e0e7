/- The law DirtyAgain, walked. -/
import Derived.Test.YtbaepjjanjhliaaDirtyA
import Derived.Test.YtbaepjjanjhliaaOpenDirty
import Derived.Outline
import Derived.BigQuiet
import Derived.Deep.RegionWith
namespace Go.Proofs.Ytbaepjjanjhliaa.drt
set_option linter.unusedVariables false
open Go.RowKit Go.Maps

theorem grown_none {w w' : World} (h : w.grownBy w' none) : Below w.heap.size w w' := ⟨h.os, h.tape, h.output, h.size, fun k hk => h.block k hk (by simp)⟩
theorem AS.fin {w0 W W' : World} {bq bm bi M n : Nat} {own : Nat → Prop} {D' : Dm} {a : List Int} (hq : drt.N.QS own bq bm fvN (fun v => v) a M W) (hm : W'.ownsMap Try.prog TI (plainElem Try.prog TB) bi n D') (hg : W.grownBy W' (some bi)) (hS : Same D' a) (h4 : ¬ own bi) (h5 : ∀ k, own k → w0.heap.size ≤ k) (h6 : w0.heap.size ≤ bi) (h7 : Below w0.heap.size w0 W) : AS w0 bq bm bi own D' a M n W' := by
  have ho : Only (fun k => k = bi) W W' := (Only.refl _ W).grown hg (fun k e _ => by cases e; rfl)
  exact ⟨hq.only ho (fun k hk e => h4 (e ▸ hk)), hm, hS, h4, h5, h6, h7.trans (ho.below h7.size (fun k e => e ▸ h6))⟩
theorem cell_grown {W W' : World} {b : Nat} {p : Addr} {u : Value} (h : W.cell? p = some u) (hg : W.grownBy W' (some b)) (hne : p.block ≠ b) : W'.cell? p = some u := cell_only h ((Only.refl (fun k => k = b) W).grown hg (fun k e _ => by cases e; rfl)) hne
theorem invK (key : Value) (l : Lit) (h : keyOf Try.prog TI key = some l) : ∃ x : Int, key = .int .i64 x := by
  obtain ⟨x, rfl, -⟩ := Maps.keyOf_int_inv Try.underlying3 h
  exact ⟨x, rfl⟩
theorem invV (u : Value) (y : DataW Unit × List MemPlace) (h : plainElem Try.prog TB u = some y) : ∃ c : Bool, u = .bool c := by
  obtain ⟨x, rfl, -⟩ := RB_inv h
  exact ⟨x, rfl⟩
set_option maxRecDepth 100000 in
set_option maxHeartbeats 4000000 in
theorem again_walk (acts : List (Int × Int)) (v : Value) (w : World) (hrow : Row w v 2 acts.length (dCells acts)) (hmax : acts.length ≤ 9223372036854775807) (hwf : ∀ q ∈ acts, (Lit.int .i64 q.2).wf = true) :
    Calls Try.prog 8 #[v] w fun e w' => e = .returned (.bool true) ∧ Below w.heap.size w w' := by
  have HR := Lib.hid hrow
  obtain ⟨a, cap, rfl, -⟩ := hrow
  have hmm := @run_makeMap Try.prog
  go_enter Try.func8, Try.ntmps8
  go_wp2_with fail
  (with_reducible refine (speaks_any _).mono ?_); rintro e w1 ⟨rfl, hb1⟩
  have hz1 := hb1.size
  go_wp2_with fail
  (with_reducible refine (N.q_new (ky := fun v => v) _).mono ?_); rintro e w2 ⟨rfl, h2, hb2, hs2⟩
  have hAS : AS w (w1.heap.size + 1) w1.heap.size (w1.heap.size + 2) (fun k => k = w1.heap.size ∨ k = w1.heap.size + 1) (.map []) [] 0 0 (w2.alloc (.map #[] 0)) := by
    have hb : Below w2.heap.size w2 (w2.alloc (.map #[] 0)) := (Below.refl _ _).alloc (Nat.le_refl _) _
    have hm := World.ownsMap_made w2 Try.prog TI (plainElem (H := Unit) Try.prog TB)
    rw [hs2] at hm
    exact ⟨h2.later hb, hm, Same.new, fun q => by omega, fun k hk => by omega, by omega, after (after hb1 hb2 hb1.size) hb (by omega)⟩
  have HAS := Lib.hid hAS
  clear hAS h2 hb1 hb2
  go_upto_block 0 with fail
  clear hmm
  generalize (fun k => k = w1.heap.size ∨ k = w1.heap.size + 1) = own0 at *
  generalize w2.alloc (.map #[] 0) = W2 at *
  obtain ⟨bq, hbq⟩ : ∃ bq, w1.heap.size + 1 = bq := ⟨_, rfl⟩
  obtain ⟨bi, hbi⟩ : ∃ bi, w1.heap.size + 2 = bi := ⟨_, rfl⟩
  obtain ⟨bm, hbm⟩ : ∃ bm, w1.heap.size = bm := ⟨_, rfl⟩
  rw [hbq, hbi, hbm] at HAS
  rw [hbq, hbi]
  clear hbq hbi hbm hs2 hz1
  have hlo : (0 : Int) ≤ (acts.length : Int) := by omega
  have hhi : (acts.length : Int) ≤ 9223372036854775807 := by omega
  go_cut [5] from 6 to 106 (fun _ wx => Hid (Below w.heap.size w wx))
  case first =>
    go_wp2_with fail
    go_loopw [5] (fun i wr => ∃ (j : Nat) (own : Nat → Prop) (D : Dm) (a : List Int) (M n : Nat), i = .int .i64 (j : Int) ∧ j ≤ 100 ∧ j ≤ acts.length ∧ a.length ≤ j ∧ M ≤ j * 1000 ∧ n ≤ j ∧ Hid (AS w bq bm bi own D a M n wr)) (fun i _ => upToA 100 i)
    case atStart => exact ⟨0, own0, .map [], [], 0, 0, rfl, by omega, by omega, by simp, by omega, by omega, HAS⟩
    case round =>
      obtain ⟨j, own, D, a, M, n, rfl, hj, hjn, haj, hM, hn, HA⟩ := hrel
      have hd0 : (0 : Int) ≤ (j : Int) := by omega
      have HBE := Lib.hid HA.out.2.2.2.2.2.2
      by_cases c1 : j < acts.length
      · by_cases c2 : j < 100
        · have hrw := HR.out.later HBE.out
          obtain ⟨ba, off, cap', ea, hcell⟩ := hrw.pos (by omega)
          simp only [Value.slice.injEq] at ea
          obtain ⟨rfl, -, rfl⟩ := ea
          have hact := List.getElem?_eq_getElem c1
          have hx64 : In64 (acts[j]).2 := hwf _ (List.getElem_mem c1)
          obtain ⟨ca, cb⟩ := dCells_at acts j _ hact
          have ga := (hcell (j * 2) (by omega)).trans ca
          have gb := (hcell (j * 2 + 1) (by omega)).trans cb
          generalize acts[j] = A at *
          obtain ⟨x0, x1⟩ := A
          dsimp only at ga gb hx64
          rw [← Nat.add_assoc] at gb
          have d1 : (j : Int) < (acts.length : Int) := by omega
          have d2 : (j : Int) < 100 := by omega
          clear hcell ca cb hact hrw
          have hb0 := (Below.refl wr.heap.size wr).alloc (Nat.le_refl _) (.cells #[.int .i64 x0, .int .i64 x1] 70)
          have HAY := Lib.hid (HA.out.later hb0)
          have f9 := Flds.new wr 70 [.int .i64 x0, .int .i64 x1]
          have hno : ¬ own wr.heap.size := fun q => by have := HA.out.1.lt _ q; omega
          have hbi9 : wr.heap.size ≠ bi := fun q => by have := HA.out.2.1.lt; omega
          have e0 := f9.cell 0; have e1 := f9.cell 1
          simp only [List.getElem?_cons_zero, List.getElem?_cons_succ] at e0 e1
          have l9 := f9.lt
          clear f9 hb0 HA
          go_upto_block 2 with fail
          generalize wr.alloc (.cells #[.int .i64 x0, .int .i64 x1] 70) = Y at *
          generalize wr.heap.size = g9 at *
          obtain ⟨K, hK⟩ : ∃ K, (wrap64 (x0.tmod 6 + 6)).tmod 6 = K := ⟨_, rfl⟩
          rw [hK]
          clear hK
          obtain ⟨hq, hmp, hS, hbn, h5, h6, h7⟩ := HAY.out
          have HQ := Lib.hid hq; have HMP := Lib.hid hmp; have HS := Lib.hid hS; have H5 := Lib.hid h5; have H7 := Lib.hid h7
          clear hq hmp hS h5 h7
          obtain ⟨b, hb⟩ : ∃ b : Bool, decide (x1 ∈ a) = b := ⟨_, rfl⟩
          go_cut [7, 8, 9] from 33 to 90 (fun _ _ _ wx => ∃ (own' : Nat → Prop) (D' : Dm) (a' : List Int) (M' n' : Nat), Hid (AS w bq bm bi own' D' a' M' n' wx) ∧ a'.length ≤ a.length + 1 ∧ M' ≤ M + 1000 ∧ n' ≤ n + 1 ∧ Hid (wx.cell? ⟨g9, 1, none⟩ = some (.int .i64 x1)))
          case first =>
            by_cases t3 : K = 3
            · have t3' : (K == 3) = true := by simpa using t3
              clear t3
              have HPP := Lib.hid (drt.N.q_pop HQ.out (drt.N.less_all _ _) (by omega) (by unfold maxLen; omega))
              obtain ⟨x, hx⟩ : ∃ x, a.headD 0 = x := ⟨_, rfl⟩
              obtain ⟨ok, hok⟩ : ∃ ok : Bool, decide (0 < a.length) = ok := ⟨_, rfl⟩
              have hxa : decide (x ∈ a) = ok := by
                rw [← hok, decide_eq_decide, ← hx]
                cases a with
                | nil => simp
                | cons y l => simp
              have hxw : In64 x := by
                rw [← hx]
                cases ha : a with
                | nil => exact In64.of (by simp)
                | cons y l => exact HQ.out.rg _ (by rw [ha]; simp)
              have hokI : decide ((0 : Int) < (a.length : Int)) = ok := by rw [← hok, decide_eq_decide]; omega
              have hokI2 : decide ((a.length : Int) > 0) = ok := hokI
              rw [hx, hok] at HPP
              have HMN : Hid (∀ a' : List Int, (0 < a.length → (x :: a').Perm a ∧ ∀ y ∈ a, (fun v : Int => v) x ≤ (fun v : Int => v) y) → ∀ y ∈ a, x ≤ y) := Lib.hid (fun a' h y hy => (h (List.length_pos_of_mem hy)).2 y hy)
              have hoo : (ok != ok) = false := by cases ok <;> rfl
              have HXA := Lib.hid hxa
              have HOK := Lib.hid hok
              clear HAY hx hxa hok hb
              go_wp2_with fail
              refine HPP.out.mono ?_
              rintro e w5 ⟨a', rfl, q1, q2, q3, q4⟩
              have HM5 := Lib.hid (map_only HMP.out q2 hbn)
              have klen : ∀ ty, (Builtin.len_ #[TMB] ty #[.map (some bi)]).run Try.prog w5 = .ok (.int .i64 (a.length : Int)) w5 := fun ty => len_b HM5.out HS.out ty
              have klook : (Instr.lookup TMB (.map (some bi)) (.int .i64 x) false).run Try.prog w5 = .ok (.bool ok) w5 := by have h := look_b HM5.out HS.out hxw; rwa [HXA.out] at h
              have HE5 := Lib.hid (cell_only e1 q2 hno)
              have HB5 := Lib.hid (H7.out.trans (q2.below H7.out.size H5.out))
              have HLE := Lib.hid (HMN.out a' q3)
              have Q1 := Lib.hid q1; have Q2 := Lib.hid q2; have Q3 := Lib.hid q3; have Q4 := Lib.hid q4
              clear q1 q2 q3 q4 HPP HMN
              go_upto_region 15 with fail
              go_cut [8, 65] from 33 to 64 (fun _ v wx => v = .bool false ∧ wx = w5)
              case first =>
                have hokN := HOK.out
                cases hk : ok
                · rw [hk] at klook hokI hokI2 hoo hokN
                  go_wp2_with fail
                  go_meet
                  exact ⟨rfl, rfl⟩
                · rw [hk] at klook hokI hokI2 hoo hokN
                  go_wp2_with fail
                  go_meet
                  exact ⟨rfl, rfl⟩
              case rest =>
                obtain ⟨rfl, rfl⟩ := hcut
                clear klen klook
                go_wp2_with (at_range; refine wpList_range_own _ rfl (.tmp 66) TMB rfl TI TB law Try.underlying73 (plainElem Try.prog TB) bi n D rfl HM5.out ?_)
                intro w6 hrg hg6 hs6
                try go_frame
                obtain ⟨r, hr⟩ : ∃ r, wc.heap.size = r := ⟨_, rfl⟩
                rw [hr] at hrg ⊢
                have HB6 := Lib.hid (grown_none hg6)
                have HRG := Lib.hid hrg
                clear hg6 hrg hs6
                go_wp2_with fail
                go_loopw [9] (fun _ wq => ∃ (left : Lit → Bool) (cnt : Nat), Hid (wq.ranges Try.prog TI (plainElem Try.prog TB) bi r n D left cnt) ∧ Hid (∀ z, left z = true → Maps.has D z = true) ∧ Hid (Below wc.heap.size wc wq)) (fun _ wq => wq.rangeLeft bi r)
                case atStart => exact ⟨_, _, HRG, Lib.hid (fun z h => h), HB6⟩
                case round =>
                  obtain ⟨left, cnt, HRR, HLF, HBR⟩ := hrel
                  go_wp2_with (at_next; refine wpList_next_ranges wr rfl (.tmp 67) rfl TI law (plainElem Try.prog TB) (Value.int .i64) Value.bool invK invV bi r n D left cnt rfl HRR.out ?_ ?_)
                  · intro _ _
                    have HM7 := Lib.hid HRR.out.owns
                    go_wp2_with (at_delete; refine wpList_delete_own _ rfl (.tmp 75) (.tmp 76) TMB TI rfl TB law Try.underlying73 (plainElem Try.prog TB) bi n D rfl HM7.out _ (kl x) rfl (hkey hxw) ?_)
                    intro w8 hm8 ht8
                    have HG8 := Lib.hid ht8.grown
                    have HM8 := Lib.hid hm8
                    clear hm8 ht8
                    go_wp2_with fail
                    go_meet
                    have hq8 := Q1.out.later HBR.out
                    have hb8 := after HB5.out HBR.out HB5.out.size
                    have he8 := cell_grown (cell_later HBR.out HE5.out) HG8.out hbi9
                    by_cases h0 : 0 < a.length
                    · have hp := (Q3.out h0).1
                      exact ⟨own, _, a', _, n, Lib.hid (AS.fin hq8 HM8.out HG8.out (HS.out.del (HMP.out.tidy law) HQ.out.nodup hp) hbn H5.out h6 hb8), by have := hp.length_eq; simp at this; omega, by omega, by omega, Lib.hid he8⟩
                    · have ha := Q4.out (by omega)
                      have hna : x ∉ a := of_decide_eq_false (HXA.out.trans (HOK.out.symm.trans (decide_eq_false h0)))
                      exact ⟨own, _, a', _, n, Lib.hid (AS.fin hq8 HM8.out HG8.out (by rw [HS.out.none hna, ha]; exact HS.out) hbn H5.out h6 hb8), by rw [ha]; omega, by omega, by omega, Lib.hid he8⟩
                  · intro y
                    refine ⟨?_, ?_⟩
                    all_goals
                      intro kl' ya yb w7 cnt1 hk hlx hv hat hrg1 hlt hg7 hs7 hen
                      obtain ⟨y', ey, rfl, hwy⟩ := Maps.keyOf_int_inv Try.underlying3 hk
                      cases ey
                      have hya : y ∈ a := of_decide_eq_true ((HS.out.has y).symm.trans (HLF.out _ hlx))
                      have hxy : x ≤ y := HLE.out y hya
                      have hxy1 : ¬ y < x := by omega
                      have hxy2 : decide (y < x) = false := decide_eq_false hxy1
                      have hb7 : Below wc.heap.size wc w7 := HBR.out.trans (((Only.refl (fun k => k = r) wr).grown hg7 (fun k e _ => by cases e; rfl)).below HBR.out.size (fun k e => by omega))
                      have HB7 := Lib.hid hb7; have HR7 := Lib.hid hrg1; have HLT := Lib.hid hlt
                      have HL7 : Hid (∀ z, (left z && !z.sameKey (kl y)) = true → Maps.has D z = true) := Lib.hid (fun z hz => HLF.out z (by simp at hz; exact hz.1))
                      clear hk hlx hv hat hrg1 hlt hg7 hs7 hb7 hwy hya
                      go_wp2_with fail
                      go_roundw
                      case rel => exact ⟨_, cnt1, HR7, HL7, HB7⟩
                      case measure => rw [HR7.out.left_eq, HRR.out.left_eq]; exact HLT.out
            · have t3' : (K == 3) = false := by simpa using t3
              clear t3
              by_cases t4 : K = 4
              · have t4' : (K == 4) = true := by simpa using t4
                clear t4
                have hrm := fun n => drt.N.q_remove (HQ.out.later (below_drewN (Below.refl _ Y) n)) (drt.N.less_all _ _) (by omega) (by unfold maxLen; omega) hx64
                have HRM := Lib.hid (hrm 1)
                rw [hb] at HRM
                have k0 := look_b (W := Y.drew) HMP.out HS.out hx64
                rw [hb] at k0
                have e1' : Y.drew.cell? ⟨g9, 1, none⟩ = some (.int .i64 x1) := e1
                have HK5 : Hid (∀ w5, Only own Y.drew w5 → w5.cell? ⟨g9, 1, none⟩ = some (.int .i64 x1) ∧ (Instr.lookup TMB (.map (some bi)) (.int .i64 x1) false).run Try.prog w5 = .ok (.bool b) w5) := Lib.hid (fun w5 ho => ⟨cell_only e1' ho hno, by have h := look_b (map_only (w := Y.drew) HMP.out ho hbn) HS.out hx64; rwa [hb] at h⟩)
                have hbb : (b != b) = false := by cases b <;> rfl
                go_upto_region 24 with fail
                go_cut [87] from 33 to 86 (fun v wx => v = .bool false ∧ ∃ a', Hid (drt.N.QS own bq bm fvN (fun v => v) a' (M + 2 * a.length + 3) wx) ∧ Hid (Only own Y.drew wx) ∧ Hid (x1 ∈ a → (x1 :: a').Perm a) ∧ Hid (x1 ∉ a → a' = a))
                case first =>
                  clear HQ HMP HS H5 H7 HAY hrm
                  go_region_with (first | (go_at_call 38; refine (HRM.out).mono ?_; rintro e w5 ⟨a', rfl, q1, q2, q3, q4⟩; obtain ⟨e5, k5⟩ := HK5.out _ q2; have l5 := World.block_lt_of_cell? w5 ⟨g9, 1, none⟩ e5; have Q1 := Lib.hid q1; have Q2 := Lib.hid q2; have Q3 := Lib.hid q3; have Q4 := Lib.hid q4; clear q1 q2 q3 q4 HRM HK5))
                  all_goals (go_wp2_with fail)
                  all_goals (go_meet; exact ⟨rfl, a', Q1, Q2, Q3, Q4⟩)
                case rest =>
                  obtain ⟨rfl, a', Q1, Q2, Q3, Q4⟩ := hcut
                  obtain ⟨e5, -⟩ := HK5.out _ Q2.out
                  have l5 := World.block_lt_of_cell? wc ⟨g9, 1, none⟩ e5
                  have HM5 := Lib.hid (map_only (w := Y.drew) HMP.out Q2.out hbn)
                  have HB5 := Lib.hid (show Below w.heap.size w wc from (after H7.out ((Below.refl _ Y).drew) H7.out.size).trans (Q2.out.below H7.out.size H5.out))
                  have HE5 := Lib.hid e5
                  clear HRM HK5 k0
                  go_wp2_with (at_delete; refine wpList_delete_own _ rfl (.tmp 88) (.tmp 90) TMB TI rfl TB law Try.underlying73 (plainElem Try.prog TB) bi n D rfl HM5.out _ (kl x1) rfl (hkey hx64) ?_)
                  intro w8 hm8 ht8
                  have HG8 := Lib.hid ht8.grown
                  have HM8 := Lib.hid hm8
                  clear hm8 ht8
                  go_wp2_with fail
                  go_meet
                  by_cases hxa : x1 ∈ a
                  · have hp := Q3.out hxa
                    exact ⟨own, _, a', _, n, Lib.hid (AS.fin Q1.out HM8.out HG8.out (HS.out.del (HMP.out.tidy law) HQ.out.nodup hp) hbn H5.out h6 HB5.out), by have := hp.length_eq; simp at this; omega, by omega, by omega, Lib.hid (cell_grown HE5.out HG8.out hbi9)⟩
                  · have ha := Q4.out hxa
                    have hS8 : Same (D.del (kl x1)) a' := by rw [HS.out.none hxa, ha]; exact HS.out
                    exact ⟨own, _, a', _, n, Lib.hid (AS.fin Q1.out HM8.out HG8.out hS8 hbn H5.out h6 HB5.out), by rw [ha]; omega, by omega, by omega, Lib.hid (cell_grown HE5.out HG8.out hbi9)⟩
              · have t4' : (K == 4) = false := by simpa using t4
                clear t4
                have hrm := drt.N.q_push (HQ.out.later (below_drewN (Below.refl _ Y) 1)) (drt.N.less_all _ _) (by omega) (by unfold maxLen; omega) hx64
                have HRM := Lib.hid hrm
                have hmem : decide (x1 ∉ a) = !b := by
                  rw [← hb]
                  by_cases q : x1 ∈ a
                  · rw [decide_eq_true q, decide_eq_false (fun z : x1 ∉ a => z q)]; rfl
                  · rw [decide_eq_false q]; exact decide_eq_true q
                rw [hmem] at HRM
                have k0 := look_b (W := Y.drew) HMP.out HS.out hx64
                rw [hb] at k0
                have e1' : Y.drew.cell? ⟨g9, 1, none⟩ = some (.int .i64 x1) := e1
                have HK5 : Hid (∀ w5, Only own Y.drew w5 → w5.cell? ⟨g9, 1, none⟩ = some (.int .i64 x1) ∧ (Instr.lookup TMB (.map (some bi)) (.int .i64 x1) false).run Try.prog w5 = .ok (.bool b) w5) := Lib.hid (fun w5 ho => ⟨cell_only e1' ho hno, by have h := look_b (map_only (w := Y.drew) HMP.out ho hbn) HS.out hx64; rwa [hb] at h⟩)
                have hbb : ((!b) == b) = false := by cases b <;> rfl
                go_upto_region 10 with fail
                go_cut [41] from 42 to 90 (fun v wx => v = .bool false ∧ ∃ a', Hid (drt.N.QS (ownNew own Y.drew wx) bq bm fvN (fun v => v) a' (M + 2 * a.length + 3) wx) ∧ Hid (Only own Y.drew wx) ∧ Hid (x1 ∉ a → a'.Perm (x1 :: a)) ∧ Hid (x1 ∈ a → a' = a))
                case first =>
                  clear HQ HMP HS H5 H7 HAY hrm hmem
                  go_region_with (first | (go_at_call 40; refine (HRM.out).mono ?_; rintro e w5 ⟨a', rfl, q1, q2, q3, q4⟩; obtain ⟨e5, k5⟩ := HK5.out _ q2; have l5 := World.block_lt_of_cell? w5 ⟨g9, 1, none⟩ e5; have Q1 := Lib.hid q1; have Q2 := Lib.hid q2; have Q3 := Lib.hid q3; have Q4 := Lib.hid q4; clear q1 q2 q3 q4 HRM HK5))
                  all_goals (go_wp2_with fail)
                  all_goals (go_meet; exact ⟨rfl, a', Q1, Q2, Q3, Q4⟩)
                case rest =>
                  obtain ⟨rfl, a', Q1, Q2, Q3, Q4⟩ := hcut
                  obtain ⟨e5, -⟩ := HK5.out _ Q2.out
                  have l5 := World.block_lt_of_cell? wc ⟨g9, 1, none⟩ e5
                  have HM5 := Lib.hid (map_only (w := Y.drew) HMP.out Q2.out hbn)
                  have HB5 := Lib.hid (show Below w.heap.size w wc from (after H7.out ((Below.refl _ Y).drew) H7.out.size).trans (Q2.out.below H7.out.size H5.out))
                  have HE5 := Lib.hid e5
                  have hbl : bi < Y.heap.size := HMP.out.lt
                  have hbn5 : ¬ ownNew own Y.drew wc bi := fun q => q.elim hbn (fun q => by have : Y.heap.size ≤ bi := q.1; omega)
                  have H55 : Hid (∀ k, ownNew own Y.drew wc k → w.heap.size ≤ k) := Lib.hid (fun k hk => hk.elim (H5.out k) (fun q => Nat.le_trans H7.out.size q.1))
                  clear HRM HK5 k0
                  go_wp2_with (at_mapUpdate; refine wpList_mapUpdate_own _ rfl _ _ _ TMB rfl TI TB law Try.underlying73 (plainElem Try.prog TB) bi n D rfl HM5.out (by unfold maxLen; omega) _ _ (kl x1) rfl rfl (hkey hx64) (.lit (.bool true)) [] (RB_mk true) ?_)
                  intro w8 hm8 hg8
                  have HG8 := Lib.hid hg8
                  have HM8 := Lib.hid hm8
                  clear hm8 hg8
                  go_wp2_with fail
                  go_meet
                  by_cases hxa : x1 ∈ a
                  · have ha := Q4.out hxa
                    exact ⟨_, _, a', _, n + 1, Lib.hid (AS.fin Q1.out HM8.out HG8.out (by rw [ha]; exact HS.out.again (HMP.out.tidy law) hxa) hbn5 H55.out h6 HB5.out), by rw [ha]; omega, by omega, by omega, Lib.hid (cell_grown HE5.out HG8.out hbi9)⟩
                  · have hp := Q3.out hxa
                    exact ⟨_, _, a', _, n + 1, Lib.hid (AS.fin Q1.out HM8.out HG8.out (HS.out.put (HMP.out.tidy law) hxa hp) hbn5 H55.out h6 HB5.out), by have := hp.length_eq; simp at this; omega, by omega, by omega, Lib.hid (cell_grown HE5.out HG8.out hbi9)⟩
          case rest =>
            obtain ⟨own', D', a', M', n', HA', ha', hM', hn', HE⟩ := hcut
            obtain ⟨k1, k2, k3, -⟩ := HA'.out
            obtain ⟨b', hb'⟩ : ∃ b' : Bool, decide (x1 ∈ a') = b' := ⟨_, rfl⟩
            have HLN := Lib.hid (fun n => drt.N.q_len (k1.later (below_drewN (Below.refl _ wc) n)))
            have HHS := Lib.hid (fun n => drt.N.q_has (k1.later (below_drewN (Below.refl _ wc) n)) hx64)
            have klen : ∀ n ty, (Builtin.len_ #[TMB] ty #[.map (some bi)]).run Try.prog (wc.drewN n) = .ok (.int .i64 (a'.length : Int)) (wc.drewN n) := fun n ty => len_b (W := wc.drewN n) k2 k3 ty
            have klook : ∀ n, (Instr.lookup TMB (.map (some bi)) (.int .i64 x1) false).run Try.prog (wc.drewN n) = .ok (.bool b') (wc.drewN n) := fun n => by have h := look_b (W := wc.drewN n) k2 k3 hx64; rwa [hb'] at h
            rw [hb'] at HHS
            have hbb' : (b' != b') = false := by cases b' <;> rfl
            have hnn : ((a'.length : Int) != (a'.length : Int)) = false := by simp
            have e1 := HE.out
            have l9 := World.block_lt_of_cell? wc ⟨g9, 1, none⟩ e1
            clear k1 k2 k3 HQ HMP HS H5 H7 HAY
            go_wp2_with fail
            go_cut [106] from 33 to 105 (fun v wx => v = .bool false ∧ Hid (Below wc.heap.size wc wx))
            case first =>
              go_quiet (first | (go_at_call 41; refine Calls.quiet_of_same (HLN.out _)) | (go_at_call 39; refine Calls.quiet_of_same (HHS.out _)))
              go_wp2_with fail
              go_meet
              exact ⟨rfl, Lib.hid (below_drewN (Below.refl _ _) _)⟩
            case rest =>
              obtain ⟨rfl, HBX⟩ := hcut
              go_wp2_with fail
              go_roundw
              case rel => exact ⟨j + 1, own', D', a', M', n', by go_num, by omega, by omega, by omega, by omega, by omega, Lib.hid (HA'.out.later HBX.out)⟩
              case measure => simp [upToA]; omega
        · have e1 : (j : Int) < (acts.length : Int) := by omega
          have e2 : ¬ (j : Int) < 100 := by omega
          go_wp2_with fail
          go_meet
          exact HBE
      · have e1 : ¬ (j : Int) < (acts.length : Int) := by omega
        go_wp2_with fail
        go_meet
        exact HBE
  case rest =>
    have HBE := hcut
    clear hcut HAS
    go_wp2
    go_ret
    exact ⟨rfl, HBE.out⟩
end Go.Proofs.Ytbaepjjanjhliaa.drt
